/-
  A strings.Builder of the call's own: what is written into it.
-/
import Derived.Test.YthebnealkekdmaaJ02
import Derived.Test.YthebnealkekdmaaJ03
import Derived.Lib.ConvBytes
import Derived.Shelf.Strings.Builder1
import Derived.Shelf.Small.Strs
import Derived.Shelf.Strings.BuilderF
import Derived.Shelf.Strings.BuilderK
import Derived.Shelf.Strings.Search1
import Derived.Shelf.Strings.Search2
import Derived.Shelf.Strings.Search3
import Derived.Shelf.Strings.Cut
import Derived.Shelf.Strings.Count
import Derived.Shelf.LaysM
import Derived.Shelf.Strings.Shaped
import Derived.Test.YthebnealkekdmaaProg
import Derived.Laws.Externs
namespace Go.Proofs.Ythebnealkekdmaa
open Go.RowKit Go.WideShapes

def afterR (s : ByteArray) : ByteArray × Bool := match afterN (numsOf s) with
  | some x => (strOf x, true)
  | none => (ByteArray.empty, false)
theorem afterR_no {s : ByteArray} (h : ∀ c ∈ numsOf s, c = 255) : afterR s = (ByteArray.empty, false) := by
  unfold afterR; rw [afterN_all _ h]
theorem afterR_at {s : ByteArray} {k c : Nat} (hk : k < s.size) (hc : (numsOf s).getD k 0 = c) (h1 : c ≠ 255) (h2 : ∀ c ∈ (numsOf s).drop (k + 1), c = 255) : afterR s = (strOf ((numsOf s).take k ++ [c + 1]), true) := by
  subst hc
  unfold afterR; rw [afterN_at _ k (by rw [numsOf_len]; exact hk) h1 h2]
theorem nums_at {s : ByteArray} {j : Nat} (hj : j < s.size) : (numsOf s).getD j 0 = (s[j]'hj).toNat := by
  unfold numsOf
  have : j < s.data.toList.length := by rw [Array.length_toList]; exact hj
  rw [List.getD_eq_getElem?_getD, List.getElem?_map, List.getElem?_eq_getElem this]
  simp
  rfl
theorem conv_at {w : World} {p : Option Addr} {xs : List Nat} {n c : Nat} (h : BIn w p xs) (hn : n = xs.length) : (convert 36 9 (.slice p n c)).run Try.prog w = .ok (.string (strOf xs)) w := bin_conv Try.underlying36 Try.underlying5 Try.underlying9 h hn c
theorem numsOf_extract (r : ByteArray) (a b : Nat) : numsOf (r.extract a b) = ((numsOf r).drop a).take (b - a) := by
  unfold numsOf
  rw [ByteArray.data_extract, Array.toList_extract]
  simp [List.map_drop, List.map_take]
/-- The bytes of a text as a new row. -/
theorem made_bytes (s : ByteArray) (n : Nat) (w : World) (hn : s.size = n) (h0 : 0 < n) : ∃ W cap, (convert 9 36 (.string s)).run Try.prog w = .ok (.slice (some ⟨w.heap.size, 0, none⟩) n cap) W ∧ Below w.heap.size w W ∧ BIn W (some ⟨w.heap.size, 0, none⟩) (numsOf s) ∧ (∀ i, i < n → W.frozen? ⟨w.heap.size, i, none⟩ = false) := by
  subst hn
  refine ⟨_, _, Lib.run_convert_string_bytes w 9 36 5 s Try.underlying9 Try.underlying36 Try.underlying5, ⟨rfl, rfl, rfl, ?_, fun k hk => Lib.bytesWorld_at_old w 5 s k hk⟩, ⟨fun _ => ⟨w.heap.size, 0, rfl, fun i hi => ?_⟩, numsOf_lt s⟩, fun i hi => ?_⟩
  · rw [Lib.bytesWorld_size]; omega
  · rw [numsOf_len] at hi
    rw [Nat.zero_add, Lib.bytesWorld_cell w 5 s i hi]
    unfold numsOf
    simp [List.getD, hi]
  · have h := Lib.bytesWorld_at_new w 5 s
    have hsz : i < (Lib.bytesCells w 5 s).size := by unfold Lib.bytesCells; simp; omega
    simp [World.frozen?, h]
    omega
theorem set_last {W : World} {g j c : Nat} {xs : List Nat} (h : BIn W (some ⟨g, 0, none⟩) xs) (hl : xs.length = j + 1) (hc : c < 256) : BIn (W.setCell ⟨g, j, none⟩ (.int .u8 c)) (some ⟨g, 0, none⟩) (xs.take j ++ [c]) := by
  refine ⟨fun _ => ⟨g, 0, rfl, fun i hi => ?_⟩, fun x hx => ?_⟩
  · have hi' : i < j + 1 := by simp at hi; omega
    have h1 := h.cell i (by omega)
    by_cases e : i = j
    · subst e
      rw [Nat.zero_add] at h1 ⊢
      rw [World.cell?_setCell_same _ _ _ h1]
      simp [List.getD, hl]
    · rw [World.cell?_setCell_other _ _ _ _ (by intro hh; simp only [Addr.mk.injEq] at hh; omega), h1]
      have : i < j := by omega
      rw [List.getD_eq_getElem?_getD, List.getD_eq_getElem?_getD, List.getElem?_append_left (by rw [List.length_take]; omega), List.getElem?_take_of_lt this]
  · rcases List.mem_append.1 hx with h2 | h2
    · exact h.2 x (List.mem_of_mem_take h2)
    · simp at h2; omega
set_option maxRecDepth 8000 in
set_option maxHeartbeats 4000000 in
theorem rAfter_any (s : ByteArray) (w : World) (hs : (s.size : Int) ≤ 10000) (t : ByteArray) (r : Bool) (hR : afterR s = (t, r)) :
    Calls Try.prog 19 #[.string s] w fun e w' => e = .returned (.tuple #[.string t, .bool r]) ∧ Below w.heap.size w w' := by
  have HR : Hid (afterR s = (t, r)) := hR
  clear hR
  go_enter Try.func19, Try.ntmps19
  go_wp2
  go_loop [4] (fun i => ∃ k : Nat, k ≤ s.size ∧ i = .int .i64 k ∧ Hid (∀ c ∈ (numsOf s).drop k, c = 255)) (fun i => (intOf i).toNat)
  case atStart => exact ⟨s.size, Nat.le_refl _, rfl, fun c hc => by rw [List.drop_eq_nil_of_le (by rw [numsOf_len]; omega)] at hc; simp at hc⟩
  case round =>
    obtain ⟨k, hk, rfl, hall⟩ := hrel
    by_cases hk0 : k = 0
    · subst hk0
      go_wp2
      go_ret2
      rw [afterR_no hall.out] at HR
      have := HR.out
      simp only [Prod.mk.injEq] at this
      obtain ⟨rfl, rfl⟩ := this
      exact ⟨rfl, Below.refl _ _⟩
    · obtain ⟨j, rfl⟩ : ∃ j, k = j + 1 := ⟨k - 1, by omega⟩
      have k1 : IntKind.i64.wrap (((j + 1 : Nat) : Int) - 1) = (j : Int) := by rw [IntKind.wrap_i64]; omega
      have g0 : (0 : Int) < ((j + 1 : Nat) : Int) := by omega
      have hj : (j : Int) < (s.size : Int) := by omega
      have hj' : j < s.size := by omega
      obtain ⟨c, hc⟩ : ∃ c, (s[j]'hj').toNat = c := ⟨_, rfl⟩
      have HC : Hid ((numsOf s).getD j 0 = c) := (nums_at hj').trans hc
      have hc256 : c < 256 := by rw [← hc]; exact UInt8.toNat_lt _
      have k2 : ((j : Int) + 1).toNat = j + 1 := by omega
      by_cases h255 : c = 255
      · have g1 : ((c : Int) == 255) = true := by simp [h255]
        have HD : Hid (∀ c ∈ (numsOf s).drop j, c = 255) := by
          intro x hx
          rw [drop_cons' (d := 0) (by rw [numsOf_len]; exact hj'), List.mem_cons] at hx
          rcases hx with rfl | hx
          · rw [HC.out]; exact h255
          · exact hall.out x hx
        clear h255
        go_wp2
        go_round
        case rel => exact ⟨j, by omega, rfl, HD⟩
        case measure => simp [intOf]
      · have g1 : ((c : Int) == 255) = false := by simp; omega
        have HA : Hid (t = strOf ((numsOf s).take j ++ [c + 1]) ∧ r = true) := by
          have := HR.out
          rw [afterR_at hj' HC.out h255 hall.out] at this
          simp only [Prod.mk.injEq] at this
          exact ⟨this.1.symm, this.2.symm⟩
        have hex : (s.extract 0 (j + 1)).size = j + 1 := by simp [ByteArray.size_extract]; omega
        obtain ⟨W, cap, hcv, hbel, hin, hfz⟩ := made_bytes (s.extract 0 (j + 1)) (j + 1) w hex (by omega)
        rw [numsOf_extract] at hin
        have hin' : BIn W (some ⟨w.heap.size, 0, none⟩) ((numsOf s).take (j + 1)) := hin
        have hl : ((numsOf s).take (j + 1)).length = j + 1 := by rw [List.length_take, numsOf_len]; omega
        have h1 := hin'.cell j (by omega)
        have hgc : ((numsOf s).take (j + 1)).getD j 0 = c := by rw [← HC.out]; simp [List.getD]
        rw [hgc, Nat.zero_add] at h1
        have h2 := hfz j (by omega)
        have hlast := set_last (c := c + 1) hin' hl (by omega)
        rw [List.take_take, Nat.min_eq_left (by omega)] at hlast
        have hcv2 : (convert 36 9 (.slice (some ⟨w.heap.size, 0, none⟩) (j + 1) cap)).run Try.prog (W.setCell ⟨w.heap.size, j, none⟩ (.int .u8 ((c : Int) + 1))) = .ok (.string (strOf ((numsOf s).take j ++ [c + 1]))) (W.setCell ⟨w.heap.size, j, none⟩ (.int .u8 ((c : Int) + 1))) := conv_at hlast (by rw [List.length_append, List.length_take, numsOf_len]; simp; omega)
        have k3 : IntKind.u8.wrap ((c : Int) + 1) = (c : Int) + 1 := by rw [IntKind.wrap_u8']; omega
        have HBL : Hid (Below w.heap.size w (W.setCell ⟨w.heap.size, j, none⟩ (.int .u8 ((c : Int) + 1)))) := hbel.setCell (Nat.le_refl _) _
        clear hin hin' hlast hfz hbel hl hgc h255 hex
        go_wp2
        go_ret2
        exact ⟨by rw [HA.out.1, HA.out.2]; rfl, HBL.out⟩
end Go.Proofs.Ythebnealkekdmaa
namespace Go.Proofs.Ythebnealkekdmaa

def cmpN : List Nat → List Nat → Int
  | [], [] => 0
  | [], _ :: _ => -1
  | _ :: _, [] => 1
  | a :: x, b :: y => if a < b then -1 else if b < a then 1 else cmpN x y
theorem cmpN_cons (c : Nat) (x y : List Nat) : cmpN (c :: x) (c :: y) = cmpN x y := by simp [cmpN]
theorem cmpN_pre (u x y : List Nat) : cmpN (u ++ x) (u ++ y) = cmpN x y := by
  induction u with
  | nil => rfl
  | cons c u ih => rw [List.cons_append, List.cons_append, cmpN_cons, ih]
theorem cmpN_ne {a b : Nat} (x y : List Nat) (h : a ≠ b) : cmpN (a :: x) (b :: y) = cmpI a b := by
  unfold cmpN cmpI
  (repeat' split) <;> omega
theorem cmpN_zero : ∀ (x y : List Nat), cmpN x y = 0 ↔ x = y
  | [], [] => by simp [cmpN]
  | [], _ :: _ => by simp [cmpN]
  | _ :: _, [] => by simp [cmpN]
  | a :: x, b :: y => by
    by_cases h : a = b
    · subst h; rw [cmpN_cons, cmpN_zero x y]; simp
    · rw [cmpN_ne x y h, cmpI_zero]
      constructor
      · intro e; omega
      · intro e; injection e with e _; omega
theorem cmpN_app : ∀ (u v A B : List Nat), u.length = v.length → cmpN (u ++ A) (v ++ B) = orI (cmpN u v) (cmpN A B)
  | [], [], A, B, _ => by simp [cmpN, orI]
  | a :: u, b :: v, A, B, h => by
    by_cases e : a = b
    · subst e
      rw [List.cons_append, List.cons_append, cmpN_cons, cmpN_cons]
      exact cmpN_app u v A B (by simpa using h)
    · rw [List.cons_append, List.cons_append, cmpN_ne _ _ e, cmpN_ne _ _ e]
      unfold orI
      rw [if_neg (by intro z; have := cmpI_zero.1 z; omega)]
  | [], _ :: _, _, _, h => by simp at h
  | _ :: _, [], _, _, h => by simp at h
def valN : List Nat → Nat
  | [] => 0
  | c :: x => c * 256 ^ x.length + valN x
theorem valN_lt : ∀ (x : List Nat), (∀ c ∈ x, c < 256) → valN x < 256 ^ x.length
  | [], _ => by simp [valN]
  | c :: x, h => by
    have h1 := valN_lt x (fun d hd => h d (by simp [hd]))
    have h2 := h c (by simp)
    simp only [valN, List.length_cons, Nat.pow_succ]
    have : (c + 1) * 256 ^ x.length ≤ 256 * 256 ^ x.length := Nat.mul_le_mul_right _ (by omega)
    rw [Nat.add_mul] at this
    rw [Nat.mul_comm (256 ^ x.length) 256]
    omega
theorem cmpN_val : ∀ (x y : List Nat), x.length = y.length → (∀ c ∈ x, c < 256) → (∀ c ∈ y, c < 256) → cmpN x y = cmpI (valN x) (valN y)
  | [], [], _, _, _ => by simp [cmpN, cmpI]
  | a :: x, b :: y, h, hx, hy => by
    have hl : x.length = y.length := by simpa using h
    have ih := cmpN_val x y hl (fun d hd => hx d (by simp [hd])) (fun d hd => hy d (by simp [hd]))
    have l1 := valN_lt x (fun d hd => hx d (by simp [hd]))
    have l2 := valN_lt y (fun d hd => hy d (by simp [hd]))
    simp only [valN]
    rw [hl] at l1 ⊢
    generalize hP : 256 ^ y.length = P at *
    by_cases e : a = b
    · subst e
      rw [cmpN_cons, ih]
      unfold cmpI
      (repeat' split) <;> omega
    · rw [cmpN_ne x y e]
      unfold cmpI
      rcases Nat.lt_or_ge a b with h1 | h1
      · have : (a + 1) * P ≤ b * P := Nat.mul_le_mul_right _ h1
        rw [Nat.add_mul] at this
        rw [if_pos (by omega), if_pos (by omega)]
      · have h1' : b < a := by omega
        have : (b + 1) * P ≤ a * P := Nat.mul_le_mul_right _ h1'
        rw [Nat.add_mul] at this
        rw [if_neg (by omega), if_pos (by omega), if_neg (by omega), if_pos (by omega)]
  | [], _ :: _, h, _, _ => by simp at h
  | _ :: _, [], h, _, _ => by simp at h
/-! ### Numbers -/
def turnN (n : Int) : Nat := (n + 9223372036854775808).toNat
def numB (n : Int) : List Nat := (putN (turnN n)).reverse
theorem turnN_lt {n : Int} (h : wf64 n) : turnN n < 18446744073709551616 := by unfold turnN; unfold wf64 at h; omega
theorem putN_len (n : Nat) : (putN n).length = 8 := rfl
theorem numB_len (n : Int) : (numB n).length = 8 := by unfold numB; rw [List.length_reverse, putN_len]
theorem valN_put (n : Nat) : valN (putN n).reverse = n := by
  have e : (putN n).reverse = [n / 72057594037927936, n / 281474976710656 % 256, n / 1099511627776 % 256, n / 4294967296 % 256, n / 16777216 % 256, n / 65536 % 256, n / 256 % 256, n % 256] := rfl
  rw [e]
  simp only [valN, List.length_cons, List.length_nil, Nat.reduceAdd, Nat.reducePow]
  omega
theorem numB_byte {n : Int} (h : wf64 n) : ∀ c ∈ numB n, c < 256 := by
  intro c hc
  unfold numB at hc
  rw [List.mem_reverse] at hc
  exact putN_bytes _ (turnN_lt h) c hc
theorem numB_cmp {a b : Int} (ha : wf64 a) (hb : wf64 b) : cmpN (numB a) (numB b) = cmpI a b := by
  rw [cmpN_val _ _ (by rw [numB_len, numB_len]) (numB_byte ha) (numB_byte hb)]
  unfold numB
  rw [valN_put, valN_put]
  unfold turnN cmpI
  unfold wf64 at ha hb
  (repeat' split) <;> omega
/-! ### Texts -/
def esc : List Nat → List Nat
  | [] => []
  | c :: x => if c = 0 then 0 :: 255 :: esc x else c :: esc x
theorem esc_zero (x : List Nat) : esc (0 :: x) = 0 :: 255 :: esc x := by simp [esc]
theorem esc_ne {c : Nat} (h : c ≠ 0) (x : List Nat) : esc (c :: x) = c :: esc x := by simp [esc, h]
theorem esc_byte : ∀ (x : List Nat), (∀ c ∈ x, c < 256) → ∀ c ∈ esc x, c < 256
  | [], _ => by simp [esc]
  | d :: x, h => by
    have ih := esc_byte x (fun e he => h e (by simp [he]))
    intro c hc
    by_cases e : d = 0
    · subst e
      rw [esc_zero, List.mem_cons, List.mem_cons] at hc
      rcases hc with rfl | rfl | hc
      · omega
      · omega
      · exact ih c hc
    · rw [esc_ne e, List.mem_cons] at hc
      rcases hc with rfl | hc
      · exact h _ (by simp)
      · exact ih c hc
theorem esc_len : ∀ (x : List Nat), (esc x).length = x.length + x.count 0
  | [] => rfl
  | d :: x => by
    by_cases e : d = 0
    · subst e; rw [esc_zero]; simp [esc_len x]; omega
    · rw [esc_ne e, List.count_cons_of_ne e]; simp [esc_len x]; omega
theorem esc_snoc (x : List Nat) (c : Nat) : esc (x ++ [c]) = esc x ++ (if c = 0 then [0, 255] else [c]) := by
  induction x with
  | nil => by_cases e : c = 0 <;> simp [esc, e]
  | cons d x ih => by_cases e : d = 0 <;> simp [esc, e, ih]
theorem esc_cmp : ∀ (s t A B : List Nat), cmpN (esc s ++ 0 :: 1 :: A) (esc t ++ 0 :: 1 :: B) = orI (cmpN s t) (cmpN A B)
  | [], [], A, B => by simp [esc, cmpN, orI]
  | [], d :: t, A, B => by
    by_cases e : d = 0
    · subst e; rw [esc_zero]; simp [esc, cmpN, orI]
    · rw [esc_ne e]; simp [esc, cmpN, orI, Nat.pos_of_ne_zero e]
  | c :: s, [], A, B => by
    by_cases e : c = 0
    · subst e; rw [esc_zero]; simp [esc, cmpN, orI]
    · rw [esc_ne e]; simp [esc, cmpN, orI, Nat.pos_of_ne_zero e]
  | c :: s, d :: t, A, B => by
    have ih := esc_cmp s t A B
    by_cases e : c = d
    · subst e
      rw [cmpN_cons]
      by_cases e0 : c = 0
      · subst e0; rw [esc_zero, esc_zero]; simp only [List.cons_append]; rw [cmpN_cons, cmpN_cons, ih]
      · rw [esc_ne e0, esc_ne e0]; simp only [List.cons_append]; rw [cmpN_cons, ih]
    · have hz : cmpI (c : Int) (d : Int) ≠ 0 := by intro z; have := cmpI_zero.1 z; omega
      rw [cmpN_ne s t e]
      unfold orI
      rw [if_neg hz]
      by_cases e0 : c = 0
      · subst e0
        have e1 : d ≠ 0 := fun h => e h.symm
        rw [esc_zero, esc_ne e1]; simp only [List.cons_append]; exact cmpN_ne _ _ e
      · by_cases e1 : d = 0
        · subst e1; rw [esc_zero, esc_ne e0]; simp only [List.cons_append]; exact cmpN_ne _ _ e
        · rw [esc_ne e0, esc_ne e1]; simp only [List.cons_append]; exact cmpN_ne _ _ e
def unesc : List Nat → Option (List Nat × List Nat)
  | [] => none
  | [c] => if c = 0 then none else none
  | c :: d :: x => if c = 0 then (if d = 1 then some ([], x) else if d = 255 then (unesc x).map (fun q => (0 :: q.1, q.2)) else none) else (unesc (d :: x)).map (fun q => (c :: q.1, q.2))
theorem unesc_esc : ∀ (s r : List Nat), unesc (esc s ++ 0 :: 1 :: r) = some (s, r)
  | [], r => by simp [esc, unesc]
  | c :: s, r => by
    have ih := unesc_esc s r
    by_cases e : c = 0
    · subst e; rw [esc_zero]; simp [unesc, ih]
    · rw [esc_ne e]
      obtain ⟨d, y, hy⟩ : ∃ d y, esc s ++ 0 :: 1 :: r = d :: y := by
        cases h : esc s ++ 0 :: 1 :: r with
        | nil => simp at h
        | cons d y => exact ⟨d, y, rfl⟩
      rw [List.cons_append, hy]
      unfold unesc
      rw [if_neg e, ← hy, ih]
      rfl
theorem unesc_only : ∀ (x s r : List Nat), unesc x = some (s, r) → x = esc s ++ 0 :: 1 :: r
  | [], _, _, h => by simp [unesc] at h
  | [c], _, _, h => by simp [unesc] at h
  | c :: d :: x, s, r, h => by
    unfold unesc at h
    by_cases e : c = 0
    · rw [if_pos e] at h
      subst e
      by_cases e1 : d = 1
      · rw [if_pos e1] at h
        simp only [Option.some.injEq, Prod.mk.injEq] at h
        obtain ⟨rfl, rfl⟩ := h
        subst e1
        rfl
      · rw [if_neg e1] at h
        by_cases e2 : d = 255
        · rw [if_pos e2, Option.map_eq_some_iff] at h
          obtain ⟨⟨a, b⟩, h1, h2⟩ := h
          simp only [Prod.mk.injEq] at h2
          obtain ⟨rfl, rfl⟩ := h2
          subst e2
          rw [esc_zero, unesc_only x a b h1]
          rfl
        · rw [if_neg e2] at h; simp at h
    · rw [if_neg e, Option.map_eq_some_iff] at h
      obtain ⟨⟨a, b⟩, h1, h2⟩ := h
      simp only [Prod.mk.injEq] at h2
      obtain ⟨rfl, rfl⟩ := h2
      rw [esc_ne e, unesc_only (d :: x) a b h1]
      rfl
end Go.Proofs.Ythebnealkekdmaa
namespace Go.Proofs.Ythebnealkekdmaa

def mayP (p : PartV) : Prop := (p.kind = 1 ∧ p.text = ByteArray.empty) ∨ (p.kind = 2 ∧ p.int = 0)
def bytesP (p : PartV) : List Nat := if p.kind = 1 then 1 :: numB p.int else 2 :: (esc (numsOf p.text) ++ [0, 1])
def keyN (l : List PartV) : List Nat := l.flatMap bytesP
structure OkP (p : PartV) : Prop where
  may : mayP p
  int : wf64 p.int
theorem bytesP_num {p : PartV} (h : p.kind = 1) : bytesP p = 1 :: numB p.int := by unfold bytesP; rw [if_pos h]
theorem bytesP_word {p : PartV} (h : p.kind ≠ 1) : bytesP p = 2 :: (esc (numsOf p.text) ++ [0, 1]) := by unfold bytesP; rw [if_neg h]
theorem keyN_cons (p : PartV) (l : List PartV) : keyN (p :: l) = bytesP p ++ keyN l := by simp [keyN]
theorem keyN_app (l m : List PartV) : keyN (l ++ m) = keyN l ++ keyN m := by simp [keyN]
theorem keyN_one (p : PartV) : keyN [p] = bytesP p := by simp [keyN]
theorem bytesP_len (p : PartV) : (bytesP p).length = if p.kind = 1 then 9 else p.text.size + (numsOf p.text).count 0 + 3 := by
  unfold bytesP
  split
  · simp [numB_len]
  · simp [esc_len, numsOf_len]
theorem bytesP_pos (p : PartV) : ∃ c x, bytesP p = c :: x := by
  unfold bytesP; split
  · exact ⟨_, _, rfl⟩
  · exact ⟨_, _, rfl⟩
theorem bytesP_byte {p : PartV} (h : wf64 p.int) : ∀ c ∈ bytesP p, c < 256 := by
  intro c hc
  unfold bytesP at hc
  split at hc
  · rw [List.mem_cons] at hc
    rcases hc with rfl | hc
    · omega
    · exact numB_byte h c hc
  · rw [List.mem_cons, List.mem_append] at hc
    rcases hc with rfl | hc | hc
    · omega
    · exact esc_byte _ (numsOf_lt _) c hc
    · simp at hc; omega
theorem keyN_byte {l : List PartV} (h : ∀ p ∈ l, wf64 p.int) : ∀ c ∈ keyN l, c < 256 := by
  intro c hc
  obtain ⟨p, hp, hc⟩ := List.mem_flatMap.1 hc
  exact bytesP_byte (h p hp) c hc
theorem cmpS_nums (a b : ByteArray) : cmpN (numsOf a) (numsOf b) = cmpS a b := by
  unfold numsOf cmpS
  generalize a.data.toList = x
  generalize b.data.toList = y
  induction x generalizing y with
  | nil => cases y <;> rfl
  | cons c x ih =>
    cases y with
    | nil => rfl
    | cons d y =>
      simp only [List.map_cons, cmpN, Lib.compareBytes]
      rw [ih]
      simp only [UInt8.lt_iff_toNat_lt]
theorem orI_r (a : Int) : orI a 0 = a := by unfold orI; split <;> simp_all
theorem orI_l (a : Int) : orI 0 a = a := by unfold orI; simp
theorem cmp_part {x y : PartV} (hx : OkP x) (hy : OkP y) (A B : List Nat) : cmpN (bytesP x ++ A) (bytesP y ++ B) = orI (cmpP x y) (cmpN A B) := by
  rcases hx.may with ⟨k1, t1⟩ | ⟨k1, t1⟩
  · rcases hy.may with ⟨k2, t2⟩ | ⟨k2, t2⟩
    · rw [bytesP_num k1, bytesP_num k2, List.cons_append, List.cons_append, cmpN_cons, cmpN_app _ _ _ _ (by rw [numB_len, numB_len]), numB_cmp hx.int hy.int]
      unfold cmpP
      rw [k1, k2, t1, t2, cmpI_zero.2 rfl, cmpS_zero.2 rfl, orI_l, orI_r]
    · rw [bytesP_num k1, bytesP_word (by omega), List.cons_append, List.cons_append, cmpN_ne _ _ (by omega), cmpP_kind (by omega), k1, k2]
      rfl
  · rcases hy.may with ⟨k2, t2⟩ | ⟨k2, t2⟩
    · rw [bytesP_word (by omega), bytesP_num k2, List.cons_append, List.cons_append, cmpN_ne _ _ (by omega), cmpP_kind (by omega), k1, k2]
      rfl
    · rw [bytesP_word (by omega), bytesP_word (by omega), List.cons_append, List.cons_append, cmpN_cons, List.append_assoc, List.append_assoc]
      show cmpN (esc _ ++ 0 :: 1 :: A) (esc _ ++ 0 :: 1 :: B) = _
      rw [esc_cmp, cmpS_nums, cmpP_text (by omega) (by omega)]
theorem cmp_key : ∀ (l m : List PartV), (∀ p ∈ l, OkP p) → (∀ p ∈ m, OkP p) → cmpN (keyN l) (keyN m) = cmpPs l m
  | [], [], _, _ => rfl
  | [], y :: m, _, _ => by
    obtain ⟨c, x, h⟩ := bytesP_pos y
    rw [keyN_cons, h]; rfl
  | x :: l, [], _, _ => by
    obtain ⟨c, z, h⟩ := bytesP_pos x
    rw [keyN_cons, h]; rfl
  | x :: l, y :: m, hl, hm => by
    rw [keyN_cons, keyN_cons, cmp_part (hl x (by simp)) (hm y (by simp)), cmp_key l m (fun p hp => hl p (by simp [hp])) (fun p hp => hm p (by simp [hp]))]
    rfl
theorem cmpPs_zero : ∀ (l m : List PartV), cmpPs l m = 0 ↔ l = m
  | [], [] => by simp [cmpPs]
  | [], _ :: _ => by simp [cmpPs]
  | _ :: _, [] => by simp [cmpPs]
  | x :: l, y :: m => by
    unfold cmpPs
    rw [orI_zero, cmpP_zero, cmpPs_zero l m]
    simp
theorem key_inj {l m : List PartV} (hl : ∀ p ∈ l, OkP p) (hm : ∀ p ∈ m, OkP p) (h : keyN l = keyN m) : l = m := by
  rw [← cmpPs_zero, ← cmp_key l m hl hm, cmpN_zero]; exact h
/-! ### Read again -/
def cut1 : List Nat → Option (PartV × List Nat)
  | [] => none
  | c :: x => if c = 1 then (if 8 ≤ x.length then some (⟨1, (valN (x.take 8) : Int) - 9223372036854775808, ByteArray.empty⟩, x.drop 8) else none)
    else if c = 2 then (unesc x).map (fun q => (⟨2, 0, strOf q.1⟩, q.2)) else none
theorem cut1_cons (c : Nat) (x : List Nat) : cut1 (c :: x) = if c = 1 then (if 8 ≤ x.length then some (⟨1, (valN (x.take 8) : Int) - 9223372036854775808, ByteArray.empty⟩, x.drop 8) else none)
    else if c = 2 then (unesc x).map (fun q => (⟨2, 0, strOf q.1⟩, q.2)) else none := rfl
theorem turn_back {n : Int} (h : wf64 n) : (turnN n : Int) - 9223372036854775808 = n := by unfold turnN; unfold wf64 at h; omega
theorem cut1_yes {p : PartV} (h : OkP p) (r : List Nat) : cut1 (bytesP p ++ r) = some (p, r) := by
  rcases h.may with ⟨k1, t1⟩ | ⟨k1, t1⟩
  · rw [bytesP_num k1, List.cons_append]
    rw [cut1_cons, if_pos rfl, if_pos (by rw [List.length_append, numB_len]; omega), List.take_left' (numB_len _), List.drop_left' (numB_len _)]
    unfold numB
    rw [valN_put, turn_back h.int]
    cases p
    simp only at k1 t1
    rw [k1, t1]
  · rw [bytesP_word (by omega), List.cons_append]
    rw [cut1_cons, if_neg (by omega), if_pos rfl, List.append_assoc]
    show Option.map _ (unesc (esc _ ++ 0 :: 1 :: r)) = _
    rw [unesc_esc]
    simp only [Option.map_some, strOf_nums]
    cases p
    simp only at k1 t1
    rw [k1, t1]
theorem put_val {y : List Nat} (h : y.length = 8) (hb : ∀ c ∈ y, c < 256) : (putN (valN y)).reverse = y := by
  match y, h with
  | [a, b, c, d, e, f, g, i], _ =>
    simp only [List.forall_mem_cons, List.not_mem_nil, false_implies, implies_true, and_true] at hb
    obtain ⟨h0, h1, h2, h3, h4, h5, h6, h7⟩ := hb
    simp only [valN, List.length_cons, List.length_nil, Nat.reduceAdd, Nat.reducePow]
    show [_, _, _, _, _, _, _, _] = _
    simp only [List.cons.injEq, and_true]
    omega
theorem esc_mem {c : Nat} : ∀ {t : List Nat}, c ∈ t → c ∈ esc t
  | d :: t, h => by
    rw [List.mem_cons] at h
    by_cases e : d = 0
    · subst e
      rw [esc_zero]
      rcases h with rfl | h
      · simp
      · simp [esc_mem h]
    · rw [esc_ne e]
      rcases h with rfl | h
      · simp
      · simp [esc_mem h]
theorem nums_strOf {xs : List Nat} (h : ∀ c ∈ xs, c < 256) : numsOf (strOf xs) = xs := by
  unfold numsOf
  rw [strOf_list, List.map_map]
  conv => rhs; rw [← List.map_id xs]
  apply List.map_congr_left
  intro c hc
  have := h c hc
  simp; omega
theorem cut1_only {x r : List Nat} {p : PartV} (hb : ∀ c ∈ x, c < 256) (h : cut1 x = some (p, r)) : OkP p ∧ x = bytesP p ++ r := by
  cases x with
  | nil => simp [cut1] at h
  | cons c x =>
    rw [cut1_cons] at h
    by_cases e1 : c = 1
    · rw [if_pos e1] at h
      by_cases e2 : 8 ≤ x.length
      · rw [if_pos e2] at h
        simp only [Option.some.injEq, Prod.mk.injEq] at h
        obtain ⟨rfl, rfl⟩ := h
        have hl : (x.take 8).length = 8 := by rw [List.length_take]; omega
        have hb8 : ∀ c ∈ x.take 8, c < 256 := fun d hd => hb d (by simp [List.mem_of_mem_take hd])
        have hlt := valN_lt _ hb8
        rw [hl] at hlt
        have hp : (256 : Nat) ^ 8 = 18446744073709551616 := by decide
        rw [hp] at hlt
        have hwf : wf64 ((valN (x.take 8) : Int) - 9223372036854775808) := by unfold wf64; omega
        refine ⟨⟨.inl ⟨rfl, rfl⟩, hwf⟩, ?_⟩
        rw [bytesP_num rfl]
        show c :: x = 1 :: (numB ((valN (x.take 8) : Int) - 9223372036854775808) ++ x.drop 8)
        unfold numB
        have ht : turnN ((valN (x.take 8) : Int) - 9223372036854775808) = valN (x.take 8) := by unfold turnN; omega
        rw [ht, put_val hl hb8, List.take_append_drop, e1]
      · rw [if_neg e2] at h; simp at h
    · rw [if_neg e1] at h
      by_cases e2 : c = 2
      · rw [if_pos e2, Option.map_eq_some_iff] at h
        obtain ⟨⟨t, r'⟩, h1, h2⟩ := h
        simp only [Prod.mk.injEq] at h2
        obtain ⟨rfl, rfl⟩ := h2
        have hx := unesc_only x t r' h1
        have ht : ∀ c ∈ t, c < 256 := fun d hd => hb d (by rw [hx]; simp [esc_mem hd])
        refine ⟨⟨.inr ⟨rfl, rfl⟩, by show wf64 0; unfold wf64; omega⟩, ?_⟩
        rw [bytesP_word (by simp), e2]
        show 2 :: x = 2 :: (esc (numsOf (strOf t)) ++ [0, 1] ++ r')
        rw [nums_strOf ht, hx, List.append_assoc]
        rfl
      · rw [if_neg e2] at h; simp at h
theorem key_pre : ∀ (l l' : List PartV) (R : List Nat), (∀ p ∈ l, OkP p) → (∀ p ∈ l', OkP p) → keyN l' = keyN l ++ R → ∃ l2, l' = l ++ l2 ∧ keyN l2 = R
  | [], l', R, _, _, h => ⟨l', rfl, by simpa [keyN] using h⟩
  | x :: l, l', R, hl, hl', h => by
    rw [keyN_cons, List.append_assoc] at h
    cases l' with
    | nil =>
      obtain ⟨c, z, hc⟩ := bytesP_pos x
      rw [hc] at h
      simp [keyN] at h
    | cons y m =>
      rw [keyN_cons] at h
      have h1 := cut1_yes (hl' y (by simp)) (keyN m)
      rw [h, cut1_yes (hl x (by simp))] at h1
      simp only [Option.some.injEq, Prod.mk.injEq] at h1
      obtain ⟨rfl, h2⟩ := h1
      obtain ⟨l2, rfl, h3⟩ := key_pre l m R (fun p hp => hl p (by simp [hp])) (fun p hp => hl' p (by simp [hp])) h2.symm
      exact ⟨l2, rfl, h3⟩
/-! ### What Make and Cut answer -/
structure IsKey (x : List Nat) (l : List PartV) : Prop where
  many : l.length ≤ 8
  ok : ∀ p ∈ l, OkP p
  key : keyN l = x
  len : x.length ≤ 256
theorem isKey_only {x : List Nat} {l m : List PartV} (h : IsKey x l) (h' : IsKey x m) : l = m := key_inj h.ok h'.ok (h.key.trans h'.key.symm)
open Classical in
noncomputable def makeR (l : List PartV) : ByteArray × Nat :=
  if 8 < l.length then (ByteArray.empty, 4) else if ∃ p ∈ l, ¬ mayP p then (ByteArray.empty, 8) else if 256 < (keyN l).length then (ByteArray.empty, 60) else (strOf (keyN l), 0)
open Classical in
noncomputable def cutR (x : List Nat) : List PartV × Nat := if h : ∃ l, IsKey x l then (Classical.choose h, 0) else ([], 60)
theorem cutR_yes {x : List Nat} {l : List PartV} (h : IsKey x l) : cutR x = (l, 0) := by
  have hx : ∃ l, IsKey x l := ⟨l, h⟩
  unfold cutR
  rw [dif_pos hx, isKey_only (Classical.choose_spec hx) h]
theorem cutR_no {x : List Nat} (h : ∀ l, ¬ IsKey x l) : cutR x = ([], 60) := by
  unfold cutR
  rw [dif_neg (fun ⟨l, hl⟩ => h l hl)]
theorem makeR_many {l : List PartV} (h : 8 < l.length) : makeR l = (ByteArray.empty, 4) := by unfold makeR; rw [if_pos h]
theorem makeR_bad {l : List PartV} (h : ¬ 8 < l.length) (hb : ∃ p ∈ l, ¬ mayP p) : makeR l = (ByteArray.empty, 8) := by unfold makeR; rw [if_neg h, if_pos hb]
theorem makeR_long {l : List PartV} (h : ¬ 8 < l.length) (hb : ∀ p ∈ l, mayP p) (hl : 256 < (keyN l).length) : makeR l = (ByteArray.empty, 60) := by
  unfold makeR; rw [if_neg h, if_neg (fun ⟨p, hp, hn⟩ => hn (hb p hp)), if_pos hl]
theorem makeR_ok {l : List PartV} (h : ¬ 8 < l.length) (hb : ∀ p ∈ l, mayP p) (hl : ¬ 256 < (keyN l).length) : makeR l = (strOf (keyN l), 0) := by
  unfold makeR; rw [if_neg h, if_neg (fun ⟨p, hp, hn⟩ => hn (hb p hp)), if_neg hl]
/-- Whatever Make answers with no error is a key. -/
theorem makeR_key {l : List PartV} {s : ByteArray} (hw : ∀ p ∈ l, wf64 p.int) (h : makeR l = (s, 0)) : IsKey (numsOf s) l ∧ s = strOf (keyN l) := by
  by_cases h1 : 8 < l.length
  · rw [makeR_many h1] at h; simp at h
  · by_cases h2 : ∃ p ∈ l, ¬ mayP p
    · rw [makeR_bad h1 h2] at h; simp at h
    · have h2' : ∀ p ∈ l, mayP p := fun p hp => Classical.byContradiction fun hn => h2 ⟨p, hp, hn⟩
      by_cases h3 : 256 < (keyN l).length
      · rw [makeR_long h1 h2' h3] at h; simp at h
      · rw [makeR_ok h1 h2' h3] at h
        simp only [Prod.mk.injEq, and_true] at h
        subst h
        rw [nums_strOf (keyN_byte hw)]
        exact ⟨⟨by omega, fun p hp => ⟨h2' p hp, hw p hp⟩, rfl, by omega⟩, rfl⟩
theorem makeR_of {x : List Nat} {l : List PartV} (h : IsKey x l) : makeR l = (strOf x, 0) := by
  rw [makeR_ok (by have := h.many; omega) (fun p hp => (h.ok p hp).may) (by rw [h.key]; have := h.len; omega), h.key]
/-! ### Cut, on the way -/
structure OnCut (x : List Nat) (l : List PartV) (rest : List Nat) : Prop where
  many : l.length ≤ 8
  ok : ∀ p ∈ l, OkP p
  split : x = keyN l ++ rest
  byte : ∀ c ∈ x, c < 256
  len : x.length ≤ 256
theorem OnCut.no {x rest : List Nat} {l : List PartV} (h : OnCut x l rest) (hr : rest ≠ []) (hn : cut1 rest = none ∨ l.length = 8) : cutR x = ([], 60) := by
  refine cutR_no fun l' hl' => ?_
  obtain ⟨l2, rfl, h2⟩ := key_pre l l' rest h.ok hl'.ok (hl'.key.trans h.split)
  cases l2 with
  | nil => exact hr (by rw [← h2]; rfl)
  | cons p l2 =>
    rcases hn with hn | hn
    · rw [← h2, keyN_cons, cut1_yes (hl'.ok p (by simp))] at hn
      simp at hn
    · have := hl'.many
      simp at this
      omega
theorem OnCut.next {x rest r : List Nat} {l : List PartV} {p : PartV} (h : OnCut x l rest) (hc : cut1 rest = some (p, r)) (hl : l.length ≠ 8) : OnCut x (l ++ [p]) r := by
  obtain ⟨h1, h2⟩ := cut1_only (fun c hc => h.byte c (by rw [h.split]; simp [hc])) hc
  refine ⟨?_, ?_, ?_, h.byte, h.len⟩
  · have := h.many; simp; omega
  · intro q hq
    rcases List.mem_append.1 hq with hq | hq
    · exact h.ok q hq
    · simp at hq; subst hq; exact h1
  · rw [keyN_app, keyN_one, List.append_assoc, ← h2]; exact h.split
theorem OnCut.done {x : List Nat} {l : List PartV} (h : OnCut x l []) : cutR x = (l, 0) := cutR_yes ⟨h.many, h.ok, by rw [h.split, List.append_nil], h.len⟩
end Go.Proofs.Ythebnealkekdmaa
namespace Go.Proofs.Ythebnealkekdmaa
open Go.Shelf Go.RowKit
def lays169_ren : Go.Shelf.Ren := ⟨fun | 169 => 26 | n => n, fun | 70 => 49 | 9 => 9 | 0 => 0 | 72 => 51 | 37 => 36 | 127 => 71 | 3 => 3 | 5 => 5 | n => n, fun | n => n⟩
theorem lays169 : Go.Proofs.Lays.n169 Try.prog lays169_ren := {
  mixed := by kernel_rfl
  f169 := Try.func26.trans (congrArg some (by kernel_rfl))
  t0 := Try.underlying0
  a0 := Try.isAgg0
  z0 := Try.sizeOf0
  v0 := Try.zeroValue0
  t3 := Try.underlying3
  a3 := Try.isAgg3
  z3 := Try.sizeOf3
  v3 := Try.zeroValue3
  t9 := Try.underlying9
  a9 := Try.isAgg9
  z9 := Try.sizeOf9
  v9 := Try.zeroValue9
  t37 := Try.underlying36
  a37 := Try.isAgg36
  z37 := Try.sizeOf36
  v37 := Try.zeroValue36
  t70 := Try.underlying49
  a70 := Try.isAgg49
  z70 := Try.sizeOf49
  v70 := Try.zeroValue49
  t72 := Try.underlying51
  a72 := Try.isAgg51
  z72 := Try.sizeOf51
  v72 := Try.zeroValue51
  t127 := Try.underlying71
  a127 := Try.isAgg71
  z127 := Try.sizeOf71
  v127 := Try.zeroValue71 }
theorem Builder_Extra_169 : Builder.Extra Try.prog lays169_ren := {
  sizeBuilder := by kernel_rfl
  liesBuilder := by kernel_rfl
  t5 := Try.underlying5
  a5 := Try.isAgg5
  z5 := Try.sizeOf5
  v5 := Try.zeroValue5
  infoByte := by kernel_rfl
  cellsByte := by kernel_rfl
  sizeByte := by kernel_rfl
  neB5 := by decide }
theorem Builder_String_any (B b : Nat) (l : List UInt8) (w : World) (h : Lib.IsBuilder 51 5 B b (Lib.byteCells l) w) (hBw : B ≤ w.heap.size) :
    Calls Try.prog 26 #[.pointer (some ⟨b, 0, none⟩)] w fun e w' => e = .returned (.string ⟨l.toArray⟩) ∧ Below B w w' := Any.Builder_String_any lays169 Builder_Extra_169 B b l w h hBw
def lays219_ren : Go.Shelf.Ren := ⟨fun | 219 => 62 | 217 => 67 | 225 => 68 | 224 => 69 | 267 => 70 | 266 => 71 | 314 => 72 | n => n, fun | 9 => 9 | 3 => 3 | 4 => 4 | 5 => 5 | 46 => 97 | 146 => 99 | 51 => 98 | n => n, fun | 1 => 0 | n => n⟩
theorem lays219 : Go.Proofs.Lays.n219 Try.prog lays219_ren := {
  mixed := by kernel_rfl
  f217 := Try.func67.trans (congrArg some (by kernel_rfl))
  f219 := Try.func62.trans (congrArg some (by kernel_rfl))
  f224 := Try.func69.trans (congrArg some (by kernel_rfl))
  f225 := Try.func68.trans (congrArg some (by kernel_rfl))
  f266 := Try.func71.trans (congrArg some (by kernel_rfl))
  f267 := Try.func70.trans (congrArg some (by kernel_rfl))
  f314 := Try.func72.trans (congrArg some (by kernel_rfl))
  t3 := Try.underlying3
  a3 := Try.isAgg3
  z3 := Try.sizeOf3
  v3 := Try.zeroValue3
  t4 := Try.underlying4
  a4 := Try.isAgg4
  z4 := Try.sizeOf4
  v4 := Try.zeroValue4
  t5 := Try.underlying5
  a5 := Try.isAgg5
  z5 := Try.sizeOf5
  v5 := Try.zeroValue5
  t9 := Try.underlying9
  a9 := Try.isAgg9
  z9 := Try.sizeOf9
  v9 := Try.zeroValue9
  t46 := Try.underlying97
  a46 := Try.isAgg97
  z46 := Try.sizeOf97
  v46 := Try.zeroValue97
  t51 := Try.underlying98
  a51 := Try.isAgg98
  z51 := Try.sizeOf98
  v51 := Try.zeroValue98
  t146 := Try.underlying99
  a146 := Try.isAgg99
  z146 := Try.sizeOf99
  v146 := Try.zeroValue99
  g1 := by kernel_rfl }
theorem stringslite_Index_one (s : ByteArray) (c : UInt8) (w : World) :
    Calls Try.prog 62 #[.string s, .string ⟨#[c]⟩] w fun e w' => e = .returned (.int .i64 (Lib.indexByte s.data.toList c)) ∧ w' = w := Any.stringslite_Index_one lays219 s c w
def lays138_ren : Go.Shelf.Ren := ⟨fun | 138 => 37 | 195 => 49 | 218 => 50 | 143 => 51 | 219 => 62 | 217 => 67 | 225 => 68 | 224 => 69 | 267 => 70 | 266 => 71 | 314 => 72 | n => n, fun | 9 => 9 | 3 => 3 | 4 => 4 | 5 => 5 | 0 => 0 | 46 => 97 | 146 => 99 | 51 => 98 | n => n, fun | 1 => 0 | n => n⟩
theorem lays138 : Go.Proofs.Lays.n138 Try.prog lays138_ren := {
  mixed := by kernel_rfl
  f138 := Try.func37.trans (congrArg some (by kernel_rfl))
  f143 := Try.func51.trans (congrArg some (by kernel_rfl))
  f195 := Try.func49.trans (congrArg some (by kernel_rfl))
  f217 := Try.func67.trans (congrArg some (by kernel_rfl))
  f218 := Try.func50.trans (congrArg some (by kernel_rfl))
  f219 := Try.func62.trans (congrArg some (by kernel_rfl))
  f224 := Try.func69.trans (congrArg some (by kernel_rfl))
  f225 := Try.func68.trans (congrArg some (by kernel_rfl))
  f266 := Try.func71.trans (congrArg some (by kernel_rfl))
  f267 := Try.func70.trans (congrArg some (by kernel_rfl))
  f314 := Try.func72.trans (congrArg some (by kernel_rfl))
  t0 := Try.underlying0
  a0 := Try.isAgg0
  z0 := Try.sizeOf0
  v0 := Try.zeroValue0
  t3 := Try.underlying3
  a3 := Try.isAgg3
  z3 := Try.sizeOf3
  v3 := Try.zeroValue3
  t4 := Try.underlying4
  a4 := Try.isAgg4
  z4 := Try.sizeOf4
  v4 := Try.zeroValue4
  t5 := Try.underlying5
  a5 := Try.isAgg5
  z5 := Try.sizeOf5
  v5 := Try.zeroValue5
  t9 := Try.underlying9
  a9 := Try.isAgg9
  z9 := Try.sizeOf9
  v9 := Try.zeroValue9
  t46 := Try.underlying97
  a46 := Try.isAgg97
  z46 := Try.sizeOf97
  v46 := Try.zeroValue97
  t51 := Try.underlying98
  a51 := Try.isAgg98
  z51 := Try.sizeOf98
  v51 := Try.zeroValue98
  t146 := Try.underlying99
  a146 := Try.isAgg99
  z146 := Try.sizeOf99
  v146 := Try.zeroValue99
  g1 := by kernel_rfl }
theorem strings_Count_one (s : ByteArray) (c : UInt8) (w : World) :
    Calls Try.prog 37 #[.string s, .string ⟨#[c]⟩] w fun e w' => e = .returned (.int .i64 (Lib.countByte s.data.toList c)) ∧ w' = w := Any.strings_Count_one lays138 s c w
end Go.Proofs.Ythebnealkekdmaa
namespace Go.Proofs.Ythebnealkekdmaa
open Go.RowKit Go.WideShapes

theorem builder_info : ∃ j, Try.prog.info? 51 = some j ∧ j.size ≠ 0 := by
  have h : ((Try.prog.info? 51).map fun j => decide (j.size ≠ 0)) = some true := by kernel_rfl
  obtain ⟨j, hj, hs⟩ := Option.map_eq_some_iff.1 h
  exact ⟨j, hj, of_decide_eq_true hs⟩
theorem builder_lies : liesAt Try.prog Try.prog.depth 51 (2 / Try.prog.cellsOf 51) 0 51 1 = true := by kernel_rfl
abbrev Bld (B b : Nat) (xs : List Nat) (w : World) : Prop := Lib.IsBuilder 51 5 B b (Bs xs) w
theorem own_ne {w : World} {base n : Nat} {v : Value} {xs : List Value} (h : w.ownsRow base 5 1 v n xs) {B : Nat} {C : Array Value} {t : TypeId} {fr : Nat × Nat} (hB : w.heap[B]? = some (.cells C t fr)) (ht : t ≠ 5) : v.ownBlock ≠ some B := by
  intro e
  rcases h.2 with ⟨hv, _⟩ | ⟨g, cap, cur, hv, _, hgg, _⟩
  · rw [hv] at e; cases e
  · rw [hv] at e
    simp only [Value.ownBlock, Option.some.injEq] at e
    subst e
    rw [hB] at hgg
    simp only [Option.some.injEq, Obj.cells.injEq] at hgg
    exact ht hgg.2.1
/-- What is neither the builder's own block nor a row of bytes stays. -/
def KeptB (b : Nat) (w w' : World) : Prop := ∀ g C t fr, g ≠ b → t ≠ 5 → w.heap[g]? = some (.cells C t fr) → w'.heap[g]? = some (.cells C t fr)
theorem KeptB.refl (b : Nat) (w : World) : KeptB b w w := fun _ _ _ _ _ _ h => h
theorem KeptB.trans {b : Nat} {w w' w'' : World} (h : KeptB b w w') (h' : KeptB b w' w'') : KeptB b w w'' := fun g C t fr hg ht hh => h' g C t fr hg ht (h g C t fr hg ht hh)
theorem KeptB.set {b : Nat} {w w' : World} (h : KeptB b w w') (i : Nat) (v : Value) : KeptB b w (w'.setCell ⟨b, i, none⟩ v) := fun g C t fr hg ht hh => (Below.heap_setCell w' ⟨b, i, none⟩ v g hg).trans (h g C t fr hg ht hh)
theorem KeptB.of_below {b : Nat} {w w' : World} (h : Below w.heap.size w w') : KeptB b w w' := fun g _ _ _ _ _ hh => (h.block g (lt_heap hh)).trans hh
theorem KeptB.grown {b : Nat} {w w1 w2 : World} {base n : Nat} {v : Value} {xs : List Value} (h : KeptB b w w1) (hg : w1.grownBy w2 v.ownBlock) (ho : w1.ownsRow base 5 1 v n xs) : KeptB b w w2 := fun g C t fr hgb ht hh => by
  have h1 := h g C t fr hgb ht hh
  rw [hg.block g (lt_heap h1) (fun e => own_ne ho h1 ht e.symm)]
  exact h1
set_option maxHeartbeats 1000000 in
set_option maxRecDepth 100000 in
theorem copyCheck_used (b : Nat) (w : World) (h0 : w.cell? ⟨b, 0, none⟩ = some (.pointer (some ⟨b, 0, none⟩))) :
    Calls Try.prog 40 #[.pointer (some ⟨b, 0, none⟩)] w fun e w' => e = .returned (.tuple #[]) ∧ w' = w := by
  obtain ⟨j, hj, _⟩ := builder_info
  go_enter Try.func40, Try.ntmps40
  go_wp2
  rw [Lib.run_neq_ptr_same w _ Try.underlying49 hj]
  go_wp2
  go_end0
  exact ⟨rfl, rfl⟩
set_option maxHeartbeats 1000000 in
set_option maxRecDepth 100000 in
theorem copyCheck_fresh (b : Nat) (w : World) (h0 : w.cell? ⟨b, 0, none⟩ = some (.pointer none)) (hsh : w.shape? b = some (51, 2)) (hfz : w.frozen? ⟨b, 0, none⟩ = false) :
    Calls Try.prog 40 #[.pointer (some ⟨b, 0, none⟩)] w fun e w' => e = .returned (.tuple #[]) ∧ w' = w.setCell ⟨b, 0, none⟩ (.pointer (some ⟨b, 0, none⟩)) := by
  obtain ⟨j, hj, hjs⟩ := builder_info
  go_enter Try.func40, Try.ntmps40
  go_wp2
  rw [Lib.run_to_unsafe w ⟨b, 0, none⟩ Try.underlying49 Try.underlying84 hj hjs hsh (Nat.zero_lt_succ 1)]
  simp only [Result.andThen]
  rw [Oper.upon_value]
  go_wp2
  rw [run_callFunc_extern Try.func56 (by kernel_rfl) (by kernel_rfl) (by kernel_rfl) (e := Extern.AbiNoEscape.same) (by kernel_rfl)]
  rw [Lib.run_noEscape]
  simp only [Result.andThen]
  rw [Oper.upon_value]
  go_wp2
  rw [Lib.run_from_unsafe w ⟨b, 0, none⟩ Try.underlying84 Try.underlying49 hj hsh builder_lies]
  simp only [Result.andThen]
  rw [Oper.upon_value]
  go_wp2
  go_end0
  exact ⟨rfl, rfl⟩
theorem copyCheck_any (B b : Nat) (xs : List Nat) (w : World) (h : Bld B b xs w) :
    Calls Try.prog 40 #[.pointer (some ⟨b, 0, none⟩)] w fun e w' => e = .returned (.tuple #[]) ∧ (Lib.BuilderAt 51 5 B b (.pointer (some ⟨b, 0, none⟩)) (Bs xs) w' ∧ Below B w w' ∧ KeptB b w w') := by
  rcases h with h | h
  · refine (copyCheck_fresh b w h.cell0 h.shape h.frozen0).mono ?_
    rintro e w' ⟨rfl, rfl⟩
    exact ⟨rfl, h.used _, (Below.refl B w).setCell (p := ⟨b, 0, none⟩) h.1 _, (KeptB.refl b w).set 0 _⟩
  · refine (copyCheck_used b w h.cell0).mono ?_
    rintro e w' ⟨rfl, rfl⟩
    exact ⟨rfl, h, Below.refl B _, KeptB.refl b _⟩
theorem bld_put {B b : Nat} {v v' : Value} {ys : List Nat} {w1 w2 : World} (hB : B ≤ b) (hbk : w1.heap[b]? = some (.cells #[.pointer (some ⟨b, 0, none⟩), v] 51 (0, 0))) (hne : v.ownBlock ≠ some b) (hg : w1.grownBy w2 v.ownBlock) (ho : w2.ownsRow B 5 1 v' (Bs ys).length (Bs ys)) : w2.heap[b]? = some (.cells #[.pointer (some ⟨b, 0, none⟩), v] 51 (0, 0)) ∧ Bld B b ys (w2.setCell ⟨b, 1, none⟩ v') := by
  have hlt : b < w1.heap.size := lt_heap hbk
  have hb2 : w2.heap[b]? = some (.cells #[.pointer (some ⟨b, 0, none⟩), v] 51 (0, 0)) := by
    rw [hg.block b hlt (fun e => hne e.symm)]
    exact hbk
  exact ⟨hb2, .inr (Lib.BuilderAt.put hB hb2 ho (by decide))⟩
set_option maxHeartbeats 2000000 in
set_option maxRecDepth 100000 in
theorem writeString_any (B b : Nat) (xs : List Nat) (s : ByteArray) (w : World) (h : Bld B b xs w) (hlen : xs.length + s.size ≤ 140737488355328) (hBw : B ≤ w.heap.size) :
    Calls Try.prog 27 #[.pointer (some ⟨b, 0, none⟩), .string s] w fun e w' => e = .returned (.tuple #[.int .i64 s.size, .nilIface]) ∧ Bld B b (xs ++ numsOf s) w' ∧ Below B w w' ∧ KeptB b w w' := by
  obtain ⟨i0, hi, hz0, hz1, hz2⟩ := info_parts info5
  have HL : Hid (xs.length + s.size ≤ 140737488355328) := hlen
  clear hlen
  go_enter Try.func27, Try.ntmps27
  go_wp2_with (go_at_call 40; refine (copyCheck_any B b xs _ h).mono ?_)
  rintro e w1 ⟨rfl, h1, hb1, hk1⟩
  obtain ⟨hB, v, hbk, hown, hne⟩ := h1
  have c0 : w1.cell? ⟨b, 0, none⟩ = some (.pointer (some ⟨b, 0, none⟩)) := by rw [Lib.cell_of_heap hbk]; rfl
  have c1 : w1.cell? ⟨b, 1, none⟩ = some v := by rw [Lib.cell_of_heap hbk]; rfl
  go_wp2_with (at_builtin; go_loud (refine Lib.wpList_append_own_string _ rfl _ _ 36 9 rfl B 5 i0 Try.underlying36 Try.underlying9 hi hz0 hz1 hz2 _ _ _ rfl hown s rfl ?c3 ?c4 ?c5 ?_))
  case c3 => have := HL.out; unfold maxLen; simp [Bs]; omega
  case c4 => have := HL.out; simp [Bs]; omega
  case c5 => have := hb1.size; omega
  intro v' w2 hown' hgrow _
  have hown2 : w2.ownsRow B 5 1 v' (Bs (xs ++ numsOf s)).length (Bs (xs ++ numsOf s)) := by
    rw [Bs_app, ← strCells_Bs]
    simpa [Lib.strCells_length] using hown'
  obtain ⟨hb2, hnew⟩ := bld_put hB hbk hne hgrow hown2
  have d0 : w2.cell? ⟨b, 0, none⟩ = some (.pointer (some ⟨b, 0, none⟩)) := by rw [Lib.cell_of_heap hb2]; rfl
  have d1 : w2.cell? ⟨b, 1, none⟩ = some v := by rw [Lib.cell_of_heap hb2]; rfl
  have f1 : w2.frozen? ⟨b, 1, none⟩ = false := Lib.frozen_of_heap hb2 1
  obtain ⟨ao, n', cap, rfl⟩ : ∃ ao n' cap, v' = .slice ao n' cap := by
    rcases hown'.2 with ⟨hv, _⟩ | ⟨g, cap, cur, hv, _⟩
    · exact ⟨_, _, _, hv⟩
    · exact ⟨_, _, _, hv⟩
  have HNEW : Hid (Bld B b (xs ++ numsOf s) (w2.setCell ⟨b, 1, none⟩ (.slice ao n' cap))) := hnew
  clear hnew
  go_wp2
  go_ret2
  exact ⟨rfl, HNEW.out, (hb1.grown hgrow (by have := hb1.size; omega) (fun k hk => (hown.lt k hk).1)).setCell (p := ⟨b, 1, none⟩) hB _, (hk1.grown hgrow hown).set 1 _⟩
set_option maxHeartbeats 2000000 in
set_option maxRecDepth 100000 in
theorem writeByte_any (B b : Nat) (xs : List Nat) (c : Nat) (w : World) (h : Bld B b xs w) (hlen : xs.length + 1 ≤ 140737488355328) (hBw : B ≤ w.heap.size) (hc : c < 256) :
    Calls Try.prog 28 #[.pointer (some ⟨b, 0, none⟩), .int .u8 c] w fun e w' => e = .returned .nilIface ∧ Bld B b (xs ++ [c]) w' ∧ Below B w w' ∧ KeptB b w w' := by
  have HL : Hid (xs.length + 1 ≤ 140737488355328 ∧ c < 256) := ⟨hlen, hc⟩
  clear hlen hc
  go_enter Try.func28, Try.ntmps28
  go_wp2_with (go_at_call 40; refine (copyCheck_any B b xs _ h).mono ?_)
  rintro e w1 ⟨rfl, h1, hb1, hk1⟩
  obtain ⟨hB, v, hbk, hown, hne⟩ := h1
  have c0 : w1.cell? ⟨b, 0, none⟩ = some (.pointer (some ⟨b, 0, none⟩)) := by rw [Lib.cell_of_heap hbk]; rfl
  have c1 : w1.cell? ⟨b, 1, none⟩ = some v := by rw [Lib.cell_of_heap hbk]; rfl
  have hsz1 := hb1.size
  have hownA : (w1.alloc (.cells #[.int .u8 c] 5)).ownsRow B 5 1 v xs.length (Bs xs) := by have := hown.alloc (.cells #[.int .u8 c] 5); simpa [Bs] using this
  have hbkA : (w1.alloc (.cells #[.int .u8 c] 5)).heap[b]? = some (.cells #[.pointer (some ⟨b, 0, none⟩), v] 51 (0, 0)) := (Lib.alloc_old w1 _ b (lt_heap hbk)).trans hbk
  go_wp2_with (at_builtin; go_loud (refine wpList_append_bytes _ rfl _ _ rfl B _ xs [c] (some ⟨w1.heap.size, 0, none⟩) _ 1 rfl rfl rfl hownA (bin_lit w1 _ _ 5 (0, 0) [c] rfl (by simp [Bs]) (by simp; exact HL.out.2)) (fun h => by cases h) (by have := HL.out; simp; omega) (by simp; omega) ?_))
  intro v' w2 hown' hgrow
  have hown2 : w2.ownsRow B 5 1 v' (Bs (xs ++ [c])).length (Bs (xs ++ [c])) := by rw [show (Bs (xs ++ [c])).length = xs.length + 1 by simp [Bs]]; exact hown'
  obtain ⟨hb2, hnew⟩ := bld_put hB hbkA hne hgrow hown2
  have d0 : w2.cell? ⟨b, 0, none⟩ = some (.pointer (some ⟨b, 0, none⟩)) := by rw [Lib.cell_of_heap hb2]; rfl
  have d1 : w2.cell? ⟨b, 1, none⟩ = some v := by rw [Lib.cell_of_heap hb2]; rfl
  have f1 : w2.frozen? ⟨b, 1, none⟩ = false := Lib.frozen_of_heap hb2 1
  obtain ⟨ao, n', cap, rfl⟩ : ∃ ao n' cap, v' = .slice ao n' cap := by
    rcases hown'.2 with ⟨hv, _⟩ | ⟨g, cap, cur, hv, _⟩
    · exact ⟨_, _, _, hv⟩
    · exact ⟨_, _, _, hv⟩
  have HNEW : Hid (Bld B b (xs ++ [c]) (w2.setCell ⟨b, 1, none⟩ (.slice ao n' cap))) := hnew
  clear hnew
  go_wp2
  go_ret
  exact ⟨rfl, HNEW.out, ((hb1.alloc (by omega) _).grown hgrow (by simp; omega) (fun k hk => (hown.lt k hk).1)).setCell (p := ⟨b, 1, none⟩) hB _, ((hk1.trans (KeptB.of_below (below_alloc w1 _))).grown hgrow hownA).set 1 _⟩
theorem bytes_Bs : ∀ (xs : List Nat), (∀ c ∈ xs, c < 256) → Lib.byteCells (xs.map UInt8.ofNat) = Bs xs := by
  intro xs h
  unfold Lib.byteCells Bs
  rw [List.map_map]
  apply List.map_congr_left
  intro c hc
  have := h c hc
  simp
  omega
theorem string_any (B b : Nat) (xs : List Nat) (w : World) (h : Bld B b xs w) (hx : ∀ c ∈ xs, c < 256) (hBw : B ≤ w.heap.size) :
    Calls Try.prog 26 #[.pointer (some ⟨b, 0, none⟩)] w fun e w' => e = .returned (.string (strOf xs)) ∧ Below B w w' := by
  have h' : Lib.IsBuilder 51 5 B b (Lib.byteCells (xs.map UInt8.ofNat)) w := by rw [bytes_Bs xs hx]; exact h
  refine (Builder_String_any B b (xs.map UInt8.ofNat) w h' hBw).mono ?_
  rintro e w' ⟨rfl, hb⟩
  refine ⟨?_, hb⟩
  have : (⟨(xs.map UInt8.ofNat).toArray⟩ : ByteArray) = strOf xs := ba_ext.1 (by rw [strOf_list])
  rw [this]
end Go.Proofs.Ythebnealkekdmaa
