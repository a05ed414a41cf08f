/-
  Filters are made, and asked, as the document says, at any keys, number of bits, bytes and key (of lists of 301 to 4096 or more than 5000 keys, of more than 10000 bytes, and of a key of more than 10000 bytes the statement asks nothing).
-/
import Derived.Test.YtidjgilipffdpaaJ04
import Derived.Deep.OwnRows
import Derived.Deep.Cut
import Derived.RegionTactic
import Derived.Test.YtidjgilipffdpaaRows
import Derived.WalkKit
import Derived.ProofKit
import Derived.OpenShut
import Derived.ShutString
import Derived.ChangeOld
import Derived.Below
namespace Go.Proofs.Ytidjgilipffdpaa
open Go.RowKit Go.WideShapes

theorem row_set {w : World} {g k v : Nat} {xs : List Nat} (h : w.heap[g]? = some (.cells (Bs xs).toArray 5 (0, 0))) : (w.setCell ⟨g, k, none⟩ (.int .u8 (v : Int))).heap[g]? = some (.cells (Bs (xs.set k v)).toArray 5 (0, 0)) := by
  rw [setCell_eq_setRow w g k _ 5 _ _ h]
  have e := setRow_heap w g _ ((Bs xs).toArray.setIfInBounds k (.int .u8 (v : Int))) 5 (0, 0) h
  rw [e, ← getD_set_bs]
  simp
theorem row_other {w : World} {g k g' : Nat} {v : Value} (hne : g' ≠ g) : (w.setCell ⟨g, k, none⟩ v).heap[g']? = w.heap[g']? := heap_setCell_other w ⟨g, k, none⟩ g' v hne
theorem row_cell {w : World} {g k : Nat} {xs : List Nat} (h : w.heap[g]? = some (.cells (Bs xs).toArray 5 (0, 0))) (hk : k < xs.length) : w.cell? ⟨g, k, none⟩ = some (.int .u8 (xs.getD k 0 : Nat)) := by
  rw [Lib.cell_of_heap h]
  simp [Bs, List.getD, List.getElem?_eq_getElem hk]
theorem getD_set_same {xs : List Nat} {k v : Nat} (hk : k < xs.length) : (xs.set k v).getD k 0 = v := by
  rw [List.getD_eq_getElem?_getD, List.getElem?_set_self hk]; rfl
theorem getD_set_diff {xs : List Nat} {k j v : Nat} (h : j ≠ k) : (xs.set k v).getD j 0 = xs.getD j 0 := by
  rw [List.getD_eq_getElem?_getD, List.getElem?_set_ne (fun e => h e.symm), ← List.getD_eq_getElem?_getD]
theorem set_lt {xs : List Nat} {k v : Nat} (h : ∀ c ∈ xs, c < 256) (hv : v < 256) : ∀ c ∈ xs.set k v, c < 256 := by
  intro c hc
  rcases List.mem_or_eq_of_mem_set hc with h1 | rfl
  · exact h c h1
  · exact hv
/-- What the k-th byte of both is. -/
def orN (xs ys : List Nat) (j : Nat) : Nat := if j < ys.length then xs.getD j 0 ||| ys.getD j 0 else xs.getD j 0
theorem orN_lt {xs ys : List Nat} (hx : ∀ c ∈ xs, c < 256) (hy : ∀ c ∈ ys, c < 256) (j : Nat) : orN xs ys j < 256 := by
  unfold orN
  split
  · exact Nat.or_lt_two_pow (n := 8) (getD_lt hx j) (getD_lt hy j)
  · exact getD_lt hx j
/-- The three rows of SieveBits: of zeros, of 255 up to k, of both up to k. -/
structure Tri (w0 w : World) (g1 g2 g3 n k : Nat) (xs ys A C : List Nat) : Prop where
  z : w.heap[g1]? = some (.cells (Bs (List.replicate n 0)).toArray 5 (0, 0))
  f : w.heap[g2]? = some (.cells (Bs A).toArray 5 (0, 0))
  b : w.heap[g3]? = some (.cells (Bs C).toArray 5 (0, 0))
  la : A.length = n
  lc : C.length = n
  fa : ∀ j, j < k → A.getD j 0 = 255
  fc : ∀ j, j < k → C.getD j 0 = orN xs ys j
  ta : ∀ c ∈ A, c < 256
  tc : ∀ c ∈ C, c < 256
  below : Below w0.heap.size w0 w
  n1 : w0.heap.size ≤ g1
  n2 : w0.heap.size ≤ g2
  n3 : w0.heap.size ≤ g3
  d12 : g1 ≠ g2
  d13 : g1 ≠ g3
  d23 : g2 ≠ g3
theorem Tri.step {w0 w : World} {g1 g2 g3 n k : Nat} {xs ys A C : List Nat} (h : Tri w0 w g1 g2 g3 n k xs ys A C) (hk : k < n) (x : Nat) (hx : x < 256) (he : x = orN xs ys k) {w' : World}
    (e1 : ∀ g, g ≠ g2 → g ≠ g3 → w'.heap[g]? = w.heap[g]?) (e2 : w'.heap[g2]? = some (.cells (Bs (A.set k 255)).toArray 5 (0, 0))) (e3 : w'.heap[g3]? = some (.cells (Bs (C.set k x)).toArray 5 (0, 0))) (hb : Below w0.heap.size w0 w') :
    Tri w0 w' g1 g2 g3 n (k + 1) xs ys (A.set k 255) (C.set k x) := by
  refine ⟨(e1 g1 h.d12 h.d13).trans h.z, e2, e3, by rw [List.length_set]; exact h.la, by rw [List.length_set]; exact h.lc, fun j hj => ?_, fun j hj => ?_, set_lt h.ta (by decide), set_lt h.tc hx, hb, h.n1, h.n2, h.n3, h.d12, h.d13, h.d23⟩
  · by_cases e : j = k
    · subst e; exact getD_set_same (by rw [h.la]; exact hk)
    · rw [getD_set_diff e]; exact h.fa j (by omega)
  · by_cases e : j = k
    · subst e; rw [getD_set_same (by rw [h.lc]; exact hk)]; exact he
    · rw [getD_set_diff e]; exact h.fc j (by omega)
theorem Tri.two {w0 w : World} {g1 g2 g3 n k : Nat} {xs ys A C : List Nat} (h : Tri w0 w g1 g2 g3 n k xs ys A C) (hk : k < n) (x : Nat) (hx : x < 256) (he : x = orN xs ys k) :
    Tri w0 ((w.setCell ⟨g2, k, none⟩ (.int .u8 255)).setCell ⟨g3, k, none⟩ (.int .u8 (x : Int))) g1 g2 g3 n (k + 1) xs ys (A.set k 255) (C.set k x) := by
  refine h.step hk x hx he (fun g e2 e3 => ?_) ?_ ?_ ?_
  · rw [row_other e3, row_other e2]
  · rw [row_other h.d23]
    exact row_set (v := 255) h.f
  · exact row_set ((row_other h.d23.symm).trans h.b)
  · exact (h.below.setCell (p := ⟨g2, k, none⟩) h.n2 _).setCell (p := ⟨g3, k, none⟩) h.n3 _
theorem Tri.three {w0 w : World} {g1 g2 g3 n k : Nat} {xs ys A C : List Nat} (h : Tri w0 w g1 g2 g3 n k xs ys A C) (hk : k < n) (y x : Nat) (hx : x < 256) (he : x = orN xs ys k) :
    Tri w0 (((w.setCell ⟨g2, k, none⟩ (.int .u8 255)).setCell ⟨g3, k, none⟩ (.int .u8 (y : Int))).setCell ⟨g3, k, none⟩ (.int .u8 (x : Int))) g1 g2 g3 n (k + 1) xs ys (A.set k 255) (C.set k x) := by
  refine h.step hk x hx he (fun g e2 e3 => ?_) ?_ ?_ ?_
  · rw [row_other e3, row_other e3, row_other e2]
  · rw [row_other h.d23, row_other h.d23]
    exact row_set (v := 255) h.f
  · have e := row_set (k := k) (v := x) (row_set (k := k) (v := y) ((row_other (k := k) (v := .int .u8 255) h.d23.symm).trans h.b))
    rw [List.set_set] at e
    exact e
  · exact ((h.below.setCell (p := ⟨g2, k, none⟩) h.n2 _).setCell (p := ⟨g3, k, none⟩) h.n3 _).setCell (p := ⟨g3, k, none⟩) h.n3 _
theorem Tri.drew {w0 w : World} {g1 g2 g3 n k : Nat} {xs ys A C : List Nat} (h : Tri w0 w g1 g2 g3 n k xs ys A C) : Tri w0 w.drew g1 g2 g3 n k xs ys A C := ⟨h.z, h.f, h.b, h.la, h.lc, h.fa, h.fc, h.ta, h.tc, h.below.drew, h.n1, h.n2, h.n3, h.d12, h.d13, h.d23⟩
theorem Tri.full {w0 w : World} {g1 g2 g3 n : Nat} {xs ys A C : List Nat} (h : Tri w0 w g1 g2 g3 n n xs ys A C) : A = List.replicate n 255 :=
  nums_ext (by rw [h.la]; simp) (fun i hi => by rw [h.fa i (by rw [← h.la]; exact hi)]; rw [h.la] at hi; simp [List.getD, hi])
theorem Tri.more {w0 w : World} {g1 g2 g3 n : Nat} {xs ys A C : List Nat} (h : Tri w0 w g1 g2 g3 n n xs ys A C) (hn : xs.length = n) (s : ByteArray) (hb : hasB xs s = true) : hasB C s = true :=
  has_more (by rw [h.lc, hn]) (fun i hi => by
    rw [h.fc i (by omega)]
    unfold orN
    split
    · exact ⟨_, rfl⟩
    · exact ⟨0, by simp⟩) s hb
theorem three_at (w : World) (o : Obj) (g : Nat) (h1 : w.heap.size ≤ g) (h2 : g ≤ w.heap.size + 2) : (((w.alloc o).alloc o).alloc o).drew.heap[g]? = some o := by
  show (((w.alloc o).alloc o).alloc o).heap[g]? = some o
  have e : g = w.heap.size ∨ g = w.heap.size + 1 ∨ g = w.heap.size + 2 := by omega
  rcases e with rfl | rfl | rfl
  · rw [heap_alloc_old _ _ (by simp; omega), heap_alloc_old _ _ (by simp), heap_alloc_new]
  · rw [heap_alloc_old _ _ (by simp)]
    have := heap_alloc_new (w.alloc o) o
    simpa using this
  · have := heap_alloc_new ((w.alloc o).alloc o) o
    simpa using this
theorem tri0 (w : World) (Z : Array Value) (n g1 g2 g3 : Nat) (xs ys : List Nat) (hZ : (Bs (List.replicate n 0)).toArray = Z) (a1 : w.heap.size ≤ g1 ∧ g1 ≤ w.heap.size + 2) (a2 : w.heap.size ≤ g2 ∧ g2 ≤ w.heap.size + 2) (a3 : w.heap.size ≤ g3 ∧ g3 ≤ w.heap.size + 2) (d1 : g1 ≠ g2) (d2 : g1 ≠ g3) (d3 : g2 ≠ g3) :
    Tri w (((w.alloc (.cells Z 5)).alloc (.cells Z 5)).alloc (.cells Z 5)).drew g1 g2 g3 n 0 xs ys (List.replicate n 0) (List.replicate n 0) := by
  subst hZ
  have hz : ∀ c ∈ List.replicate n 0, c < 256 := by intro c hc; have := List.eq_of_mem_replicate hc; omega
  exact ⟨three_at _ _ _ a1.1 a1.2, three_at _ _ _ a2.1 a2.2, three_at _ _ _ a3.1 a3.2, by simp, by simp, fun j hj => absurd hj (by omega), fun j hj => absurd hj (by omega), hz, hz,
    (((((Below.refl _ _).alloc (Nat.le_refl _) _).alloc (by simp) _).alloc (by simp; omega) _)).drew, a1.1, a2.1, a3.1, d1, d2, d3⟩
end Go.Proofs.Ytidjgilipffdpaa
namespace Go.Proofs.Ytidjgilipffdpaa
open Go.RowKit Go.WideShapes

/-- A row of four marks. -/
structure Four (w : World) (v : Value) (g c : Nat) (l : List Nat) : Prop where
  v : v = .slice (some ⟨g, 0, none⟩) 4 c
  row : ∃ cur : Array Value, w.heap[g]? = some (.cells cur 3 (0, 0)) ∧ ∀ i, i < 4 → cur[i]? = some (.int .i64 (l.getD i 0 : Nat))
theorem four_of {w : World} {base : Nat} {v : Value} {l : List Nat} (h : w.ownsRow base 3 1 v 4 (Is l)) : ∃ g c, Four w v g c l ∧ base ≤ g := by
  rcases h.2 with ⟨_, hn⟩ | ⟨g, cap, cur, hv, hb, hg, hle, hmax, hsz, htk⟩
  · cases hn
  · refine ⟨g, cap, ⟨hv, cur, hg, fun i hi => ?_⟩, hb⟩
    have hl : l.length = 4 := by have := h.1; rw [Is_len] at this; omega
    have e : (cur.toList.take (4 * 1))[i]? = (Is l)[i]? := by rw [htk]
    rw [List.getElem?_take_of_lt (by omega)] at e
    simp only [Array.getElem?_toList] at e
    rw [e]
    simp [Is, List.getD, List.getElem?_eq_getElem (show i < l.length by omega)]
theorem Four.cell {w : World} {v : Value} {g c : Nat} {l : List Nat} (h : Four w v g c l) {i : Nat} (hi : i < 4) : w.cell? ⟨g, i, none⟩ = some (.int .i64 (l.getD i 0 : Nat)) := by
  obtain ⟨cur, hg, hc⟩ := h.row
  rw [cell_of_row w g i cur 3 _ hg]
  exact hc i hi
theorem Four.same {w w' : World} {v : Value} {g c : Nat} {l : List Nat} (h : Four w v g c l) (e : w'.heap[g]? = w.heap[g]?) : Four w' v g c l := by
  obtain ⟨cur, hg, hc⟩ := h.row
  exact ⟨h.v, cur, e.trans hg, hc⟩
theorem Flt.store {w0 w : World} {g m : Nat} {xs : List Nat} (h : Flt w0 w g m xs) (n j c mk o : Nat) (hj : n / 8 = j) (hc : xs.getD (n / 8) 0 = c) (hk : 2 ^ (n % 8) = mk) (ho : (c ||| mk) = o) :
    Flt w0 (w.setCell ⟨g, j, none⟩ (.int .u8 (o : Int))) g m (setN xs n) := by
  refine ⟨?_, by rw [setN_len]; exact h.len, setN_lt h.lt n, h.below.setCell (p := ⟨g, j, none⟩) h.ge _, h.ge⟩
  unfold setN
  rw [hj, ← hj, hc, hk, ho, hj]
  exact row_set h.blk
theorem Flt.drew {w0 w : World} {g m : Nat} {xs : List Nat} (h : Flt w0 w g m xs) : Flt w0 w.drew g m xs := ⟨h.blk, h.len, h.lt, h.below.drew, h.ge⟩
set_option maxRecDepth 8000 in
set_option maxHeartbeats 8000000 in
theorem rMake_ok (q : Option Addr) (n c m : Nat) (l : List ByteArray) (w : World) (hn : n = l.length) (hl : StrsIn w q l) (hN : (n : Int) ≤ 4096) (hlong : longB l = false) (h0 : (8 : Int) ≤ (m : Int)) (hm : (m : Int) ≤ 65536) (h8 : m % 8 = 0) :
    Calls Try.prog 13 #[.slice q n c, .int .i64 m] w fun e w' => ∃ g, e = .returned (.tuple #[.slice (some ⟨g, 0, none⟩) (m / 8) (m / 8), .int .i64 0]) ∧ Flt w w' g m (makeN l m) := by
  obtain ⟨i0, hi, hz0, hz1, hz2⟩ := info_parts info5
  have HN : Hid (n = l.length ∧ longB l = false ∧ m % 8 = 0) := ⟨hn, hlong, h8⟩
  have HL : Hid (StrsIn w q l) := hl
  have g8 : ((m : Int) % 8 != 0) = false := by simp; omega
  have hd : (m : Int) / 8 = ((m / 8 : Nat) : Int) := by omega
  obtain ⟨L, hLL⟩ : ∃ L, m / 8 = L := ⟨_, rfl⟩
  rw [hLL] at hd ⊢
  have HLL : Hid (m / 8 = L) := hLL
  have hL1 : (L : Int) ≤ 8192 := by omega
  clear hn hl hlong h8 hLL
  go_enter Try.func13, Try.ntmps13
  go_wp2
  go_loop [6] (fun i => ∃ k : Nat, k ≤ n ∧ i = .int .i64 k) (fun i => n - (intOf i).toNat)
  case atStart => exact ⟨0, by omega, rfl⟩
  case round =>
    obtain ⟨k, hk, rfl⟩ := hrel
    by_cases hkn : k < n
    · have hkI : (k : Int) < (n : Int) := by omega
      obtain ⟨ba, oa, rfl⟩ := HL.out.addr (by have := HN.out; omega)
      obtain ⟨x, hx⟩ : ∃ x, l.getD k ByteArray.empty = x := ⟨_, rfl⟩
      have x0 := HL.out.at (i := k) (by have := HN.out; omega)
      rw [hx] at x0
      have hxm : x.size ≤ 256 := longB_no.1 HN.out.2.1 x (by rw [← hx]; exact getD_mem_s (by have := HN.out; omega))
      have g1 : decide ((256 : Int) < (x.size : Int)) = false := decide_eq_false (by omega)
      have HK : Hid (k < n) := hkn
      clear hx hkn hxm
      go_wp2
      go_round
      case rel => exact ⟨k + 1, by have := HK.out; omega, by go_num⟩
      case measure => have := HK.out; simp [intOf]; omega
    · obtain rfl : k = n := by omega
      clear hkn hk
      go_wp2_with (at_make; refine wpList_make_full _ rfl _ _ 26 rfl w.heap.size 5 i0 (.int .u8 0) 1 Try.underlying26 hi hz0 hz1 .i64 .i64 _ _ L rfl rfl (by omega) (by omega) (by rw [hz2]; omega) (by unfold maxLen; omega) (by simp) ?_)
      intro w2 hown hgrow
      have hrow := row_full hown
      rw [zeros_made] at hrow
      have HF : Hid (Flt w w2 w.heap.size m (makeN (l.take 0) m)) := ⟨by rw [List.take_zero]; show w2.heap[w.heap.size]? = some (Obj.cells (Bs (List.replicate (m / 8) 0)).toArray 5 (0, 0)); rw [HLL.out]; exact hrow, makeN_len _ _, makeN_lt _ _, (Below.refl _ _).grown hgrow (Nat.le_refl _) (fun k hk => by cases hk), Nat.le_refl _⟩
      clear hown hgrow hrow
      go_wp2
      go_loopw [8] (fun i wr => ∃ j : Nat, j ≤ k ∧ i = .int .i64 j ∧ Flt w wr w.heap.size m (makeN (l.take j) m)) (fun i _ => k - (intOf i).toNat)
      case atStart => exact ⟨0, by omega, rfl, HF.out⟩
      case round =>
        obtain ⟨j, hj, rfl, hflt⟩ := hrel
        have HFl : Hid (Flt w wr w.heap.size m (makeN (l.take j) m)) := hflt
        clear hflt HF
        by_cases hjn : j < k
        · have hjI : (j : Int) < (k : Int) := by omega
          obtain ⟨ba, oa, rfl⟩ := HL.out.addr (by have := HN.out; omega)
          obtain ⟨x, hx⟩ : ∃ x, l.getD j ByteArray.empty = x := ⟨_, rfl⟩
          have x0 := (HL.out.below HFl.out.below).at (i := j) (by have := HN.out; omega)
          rw [hx] at x0
          have hxm : x.size ≤ 256 := longB_no.1 HN.out.2.1 x (by rw [← hx]; exact getD_mem_s (by have := HN.out; omega))
          have HX : Hid (l.getD j ByteArray.empty = x ∧ j < l.length ∧ j < k ∧ (x.size : Int) ≤ 256) := ⟨hx, by have := HN.out; omega, hjn, by omega⟩
          clear hx hjn hxm
          go_wp2_with fail
          refine (rmarks_any x m _ HX.out.2.2.2 (by omega) hm).mono ?_
          rintro e w3 ⟨v3, rfl, ho3, hb3⟩
          obtain ⟨gl, cl, hfour, hgl⟩ := four_of ho3
          have HV := hfour.v
          subst HV
          have HF3 : Hid (Flt w w3 w.heap.size m (setsN (makeN (l.take j) m) ((marksN x m).take 0)) ∧ Four w3 (.slice (some ⟨gl, 0, none⟩) 4 cl) gl cl (marksN x m) ∧ gl ≠ w.heap.size) := ⟨HFl.out.next hb3, hfour, by have := HFl.out.below.size; have := lt_heap HFl.out.blk; omega⟩
          clear hb3 ho3 hfour hgl
          go_wp2
          go_loopw [10] (fun i wq => ∃ t : Nat, t ≤ 4 ∧ i = .int .i64 t ∧ Flt w wq w.heap.size m (setsN (makeN (l.take j) m) ((marksN x m).take t)) ∧ Four wq (.slice (some ⟨gl, 0, none⟩) 4 cl) gl cl (marksN x m)) (fun i _ => 4 - (intOf i).toNat)
          case atStart => exact ⟨0, by omega, rfl, HF3.out.1, HF3.out.2.1⟩
          case round =>
            obtain ⟨t, ht, rfl, hft, hfr⟩ := hrel
            by_cases htn : t < 4
            · have HFT : Hid (Flt w wr w.heap.size m (setsN (makeN (l.take j) m) ((marksN x m).take t)) ∧ Four wr (.slice (some ⟨gl, 0, none⟩) 4 cl) gl cl (marksN x m)) := ⟨hft, hfr⟩
              obtain ⟨y, hy⟩ : ∃ y, (marksN x m).getD t 0 = y := ⟨_, rfl⟩
              have cy := hfr.cell htn
              rw [hy] at cy
              have hym : y < m := by rw [← hy, marksN_at x m t htn]; exact Nat.mod_lt _ (by omega)
              have hyL : y / 8 < L := by have := HLL.out; have := HN.out.2.2; omega
              obtain ⟨jj, hjj⟩ : ∃ jj, y / 8 = jj := ⟨_, rfl⟩
              obtain ⟨cc, hcc⟩ : ∃ cc, (setsN (makeN (l.take j) m) ((marksN x m).take t)).getD (y / 8) 0 = cc := ⟨_, rfl⟩
              have hck := row_cell hft.blk (k := y / 8) (by rw [hft.len, HLL.out]; exact hyL)
              have hfz : wr.frozen? ⟨w.heap.size, y / 8, none⟩ = false := frozen_of_row _ _ _ _ _ hft.blk
              have hc8 : cc < 256 := by rw [← hcc]; exact getD_lt hft.lt _
              rw [hcc] at hck
              rw [hjj] at hck hfz hyL
              obtain ⟨rr, hrr⟩ : ∃ rr, y % 8 = rr := ⟨_, rfl⟩
              obtain ⟨mk, hmk⟩ : ∃ mk, 2 ^ (y % 8) = mk := ⟨_, rfl⟩
              have hpl : mk < 256 := by rw [← hmk]; exact pow_lt y
              have hor := or_u8 cc mk hc8 hpl
              obtain ⟨oo, hoo⟩ : ∃ oo, (cc ||| mk) = oo := ⟨_, rfl⟩
              rw [hoo] at hor
              have hpm : (2 : Int) ^ rr % 256 = (mk : Int) := by
                have e : ((2 ^ rr : Nat) : Int) = (mk : Int) := by rw [← hrr, hmk]
                rw [← e]
                rw [← hrr, hmk] at e
                have : (2 : Int) ^ rr = ((2 ^ rr : Nat) : Int) := by simp
                rw [this, ← hrr, hmk]
                omega
              have hI : (y : Int) / 8 = (jj : Int) := by omega
              have hI2 : (y : Int) % 8 = (rr : Int) := by omega
              have hr8 : (rr : Int) < 8 := by omega
              have hjI : (jj : Int) < (L : Int) := by omega
              have hj0 : (0 : Int) ≤ (jj : Int) := by omega
              have hr0 : (0 : Int) ≤ (rr : Int) := by omega
              have hjw : IntKind.i64.wrap (jj : Int) = (jj : Int) := by rw [IntKind.wrap_i64]; omega
              have hrw : IntKind.i64.wrap (rr : Int) = (rr : Int) := by rw [IntKind.wrap_i64]; omega
              have hyI : (y : Int) ≤ 65536 := by omega
              have htI : (t : Int) < 4 := by omega
              have HY : Hid (y / 8 = jj ∧ (setsN (makeN (l.take j) m) ((marksN x m).take t)).getD (y / 8) 0 = cc ∧ 2 ^ (y % 8) = mk ∧ (cc ||| mk) = oo ∧ (marksN x m).getD t 0 = y ∧ t < 4) := ⟨hjj, hcc, hmk, hoo, hy, htn⟩
              have hgne : gl ≠ w.heap.size := HF3.out.2.2
              clear hft hfr hy hjj hcc hmk hoo hrr htn hym
              go_wp2
              go_region
              all_goals
                go_wp2
                go_roundw
                case rel =>
                  refine ⟨t + 1, by have := HY.out; omega, by go_num, ?_, ?_⟩
                  · rw [setsN_take _ _ t (by rw [marksN_len]; exact HY.out.2.2.2.2.2), HY.out.2.2.2.2.1]
                    exact (HFT.out.1.store y jj cc mk oo HY.out.1 HY.out.2.1 HY.out.2.2.1 HY.out.2.2.2.1).drew
                  · exact HFT.out.2.same (row_other hgne)
                case measure => have := HY.out; simp [intOf]; omega
            · obtain rfl : t = 4 := by omega
              have HF7 : Hid (Flt w wr w.heap.size m (makeN (l.take (j + 1)) m)) := by
                rw [makeN_take l m j HX.out.2.1, HX.out.1]; exact hft
              clear hft hfr htn
              go_wp2
              go_roundw
              case rel => exact ⟨j + 1, by have := HX.out; omega, by go_num, HF7.out⟩
              case measure => have := HX.out; simp [intOf]; omega
        · obtain rfl : j = k := by omega
          go_wp2
          go_ret2
          refine ⟨w.heap.size, rfl, ?_⟩
          have := HFl.out
          rw [List.take_of_length_le (by have := HN.out; omega)] at this
          exact this
end Go.Proofs.Ytidjgilipffdpaa
namespace Go.Proofs.Ytidjgilipffdpaa
open Go.RowKit Go.WideShapes

theorem rMake_many (q : Option Addr) (n c : Nat) (z : Int) (w : World) (hN : (4096 : Int) < (n : Int)) :
    Calls Try.prog 13 #[.slice q n c, .int .i64 z] w fun e w' => e = .returned (.tuple #[.slice none 0 0, .int .i64 4]) ∧ w' = w := by
  go_enter Try.func13, Try.ntmps13
  go_wp2
  go_ret2
  exact ⟨rfl, rfl⟩
set_option maxRecDepth 8000 in
set_option maxHeartbeats 4000000 in
theorem rMake_long (q : Option Addr) (n c : Nat) (z : Int) (l : List ByteArray) (w : World) (hn : n = l.length) (hl : StrsIn w q l) (hN : (n : Int) ≤ 4096) (hlong : longB l = true) :
    Calls Try.prog 13 #[.slice q n c, .int .i64 z] w fun e w' => e = .returned (.tuple #[.slice none 0 0, .int .i64 3]) ∧ w' = w := by
  have HN : Hid (n = l.length ∧ longB l = true) := ⟨hn, hlong⟩
  have HL : Hid (StrsIn w q l) := hl
  clear hn hl hlong
  go_enter Try.func13, Try.ntmps13
  go_wp2
  go_loop [6] (fun i => ∃ k : Nat, k ≤ n ∧ i = .int .i64 k ∧ Hid (∀ j, j < k → (l.getD j ByteArray.empty).size ≤ 256)) (fun i => n - (intOf i).toNat)
  case atStart => exact ⟨0, by omega, rfl, fun j hj => absurd hj (by omega)⟩
  case round =>
    obtain ⟨k, hk, rfl, hall⟩ := hrel
    by_cases hkn : k < n
    · have hkI : (k : Int) < (n : Int) := by omega
      obtain ⟨ba, oa, rfl⟩ := HL.out.addr (by have := HN.out; omega)
      obtain ⟨x, hx⟩ : ∃ x, l.getD k ByteArray.empty = x := ⟨_, rfl⟩
      have x0 := HL.out.at (i := k) (by have := HN.out; omega)
      rw [hx] at x0
      have HX : Hid (l.getD k ByteArray.empty = x ∧ k < n) := ⟨hx, hkn⟩
      clear hx hkn
      by_cases hxm : x.size ≤ 256
      · have g1 : decide ((256 : Int) < (x.size : Int)) = false := decide_eq_false (by omega)
        have HM : Hid (∀ j, j < k + 1 → (l.getD j ByteArray.empty).size ≤ 256) := fun j hj => by
          rcases Nat.lt_or_ge j k with h' | h'
          · exact hall.out j h'
          · obtain rfl : j = k := by omega
            rw [HX.out.1]; exact hxm
        clear hxm hall
        go_wp2
        go_round
        case rel => exact ⟨k + 1, by have := HX.out; omega, by go_num, HM⟩
        case measure => have := HX.out; simp [intOf]; omega
      · have g1 : decide ((256 : Int) < (x.size : Int)) = true := decide_eq_true (by omega)
        clear hxm hall
        go_wp2
        go_ret2
        exact ⟨rfl, rfl⟩
    · exfalso
      have HK : longB l = false := longB_no.2 (fun s hs => by
        obtain ⟨j, hj, rfl⟩ := List.getElem_of_mem hs
        have := hall.out j (by have := HN.out; omega)
        rw [List.getD_eq_getElem?_getD, List.getElem?_eq_getElem hj] at this
        exact this)
      rw [HN.out.2] at HK
      cases HK
set_option maxRecDepth 8000 in
set_option maxHeartbeats 4000000 in
theorem rMake_arg (q : Option Addr) (n c : Nat) (z : Int) (l : List ByteArray) (w : World) (hn : n = l.length) (hl : StrsIn w q l) (hN : (n : Int) ≤ 4096) (hlong : longB l = false) (hz : z < 8 ∨ 65536 < z ∨ z % 8 ≠ 0) :
    Calls Try.prog 13 #[.slice q n c, .int .i64 z] w fun e w' => e = .returned (.tuple #[.slice none 0 0, .int .i64 2]) ∧ w' = w := by
  have HN : Hid (n = l.length ∧ longB l = false) := ⟨hn, hlong⟩
  have HL : Hid (StrsIn w q l) := hl
  have HZ : Hid (z < 8 ∨ 65536 < z ∨ z % 8 ≠ 0) := hz
  clear hn hl hlong hz
  go_enter Try.func13, Try.ntmps13
  go_wp2
  go_loop [6] (fun i => ∃ k : Nat, k ≤ n ∧ i = .int .i64 k) (fun i => n - (intOf i).toNat)
  case atStart => exact ⟨0, by omega, rfl⟩
  case round =>
    obtain ⟨k, hk, rfl⟩ := hrel
    by_cases hkn : k < n
    · have hkI : (k : Int) < (n : Int) := by omega
      obtain ⟨ba, oa, rfl⟩ := HL.out.addr (by have := HN.out; omega)
      obtain ⟨x, hx⟩ : ∃ x, l.getD k ByteArray.empty = x := ⟨_, rfl⟩
      have x0 := HL.out.at (i := k) (by have := HN.out; omega)
      rw [hx] at x0
      have hxm : x.size ≤ 256 := longB_no.1 HN.out.2 x (by rw [← hx]; exact getD_mem_s (by have := HN.out; omega))
      have g1 : decide ((256 : Int) < (x.size : Int)) = false := decide_eq_false (by omega)
      have HK : Hid (k < n) := hkn
      clear hx hkn hxm
      go_wp2
      go_round
      case rel => exact ⟨k + 1, by have := HK.out; omega, by go_num⟩
      case measure => have := HK.out; simp [intOf]; omega
    · obtain rfl : k = n := by omega
      clear hkn hk
      by_cases h1 : z < 8
      · go_wp2
        go_ret2
        exact ⟨rfl, rfl⟩
      · by_cases h2 : 65536 < z
        · go_wp2
          go_ret2
          exact ⟨rfl, rfl⟩
        · have g1 : (z % 8 != 0) = true := by have := HZ.out; simp; omega
          have h3 : 8 ≤ z := by omega
          have h4 : z ≤ 65536 := by omega
          clear h1 h2
          go_wp2
          go_ret2
          exact ⟨rfl, rfl⟩
theorem rMake_u (q : Option Addr) (n c : Nat) (l : List ByteArray) (z : Int) (w : World) (hn : n = l.length) (hl : StrsIn w q l) (E : Nat) (hE : makeE l z = E) :
    Calls Try.prog 13 #[.slice q n c, .int .i64 z] w fun e w' => ∃ v, e = .returned (.tuple #[v, .int .i64 E]) ∧ Made w w' v l z := by
  subst hE
  by_cases h1 : 4096 < l.length
  · have e : makeE l z = 4 := by unfold makeE; rw [if_pos h1]
    rw [e]
    refine (rMake_many q n c z w (by omega)).mono ?_
    rintro _ w' ⟨rfl, rfl⟩
    exact ⟨_, rfl, fun _ => rfl, fun h => (by rw [e] at h; cases h), Below.refl _ _⟩
  · cases h2 : longB l with
    | true =>
      have e : makeE l z = 3 := by unfold makeE; rw [if_neg h1, if_pos h2]
      rw [e]
      refine (rMake_long q n c z l w hn hl (by omega) h2).mono ?_
      rintro _ w' ⟨rfl, rfl⟩
      exact ⟨_, rfl, fun _ => rfl, fun h => (by rw [e] at h; cases h), Below.refl _ _⟩
    | false =>
      by_cases h3 : z < 8 ∨ 65536 < z ∨ z % 8 ≠ 0
      · have e : makeE l z = 2 := by unfold makeE; rw [if_neg h1, if_neg (by simp [h2]), if_pos h3]
        rw [e]
        refine (rMake_arg q n c z l w hn hl (by omega) h2 h3).mono ?_
        rintro _ w' ⟨rfl, rfl⟩
        exact ⟨_, rfl, fun _ => rfl, fun h => (by rw [e] at h; cases h), Below.refl _ _⟩
      · have e : makeE l z = 0 := makeE_is (by omega) h2 (by omega) (by omega) (by omega)
        rw [e]
        obtain ⟨m, rfl⟩ : ∃ m : Nat, z = m := ⟨z.toNat, by omega⟩
        refine (rMake_ok q n c m l w hn hl (by omega) h2 (by omega) (by omega) (by omega)).mono ?_
        rintro _ w' ⟨g, rfl, hf⟩
        exact ⟨_, rfl, fun h => absurd e h, fun _ => ⟨g, by simp, by simpa using hf.blk, hf.ge⟩, hf.below⟩
def hasE (L : Nat) (s : ByteArray) : Nat := if L < 1 ∨ 8192 < L then 2 else if 256 < s.size then 3 else 0
def hasR (xs : List Nat) (s : ByteArray) : Bool := if hasE xs.length s = 0 then hasB xs s else false
theorem Has_u (p : Option Addr) (L cap : Nat) (xs : List Nat) (s : ByteArray) (w : World) (hL : L = xs.length) (hb : BIn w p xs) (r : Bool) (hr : hasR xs s = r) (E : Nat) (hE : hasE xs.length s = E) :
    Calls Try.prog 11 #[.slice p L cap, .string s] w fun e w' => e = .returned (.tuple #[.bool r, .int .i64 E]) ∧ Below w.heap.size w w' := by
  subst hE hr
  by_cases h1 : L < 1 ∨ 8192 < L
  · have e : hasE xs.length s = 2 := by unfold hasE; rw [if_pos (by omega)]
    have er : hasR xs s = false := by unfold hasR; rw [e]; rfl
    rw [e, er]
    exact (Has_arg p L cap s w (by omega)).mono fun _ _ ⟨a, b⟩ => ⟨a, by rw [b]; exact Below.refl _ _⟩
  · by_cases h2 : 256 < s.size
    · have e : hasE xs.length s = 3 := by unfold hasE; rw [if_neg (by omega), if_pos h2]
      have er : hasR xs s = false := by unfold hasR; rw [e]; rfl
      rw [e, er]
      exact (Has_long p L cap s w (by omega) (by omega) (by omega)).mono fun _ _ ⟨a, b⟩ => ⟨a, by rw [b]; exact Below.refl _ _⟩
    · have e : hasE xs.length s = 0 := by unfold hasE; rw [if_neg (by omega), if_neg h2]
      have er : hasR xs s = hasB xs s := by unfold hasR; rw [if_pos e]
      rw [e, er]
      exact Has_ok p L cap xs s w hL hb (by omega) (by omega) (by omega) _ rfl
theorem bit_div (c r : Nat) : (c / 2 ^ r % 2 = 0) ↔ c.testBit r = false := by
  rw [Nat.testBit_eq_decide_div_mod_eq, decide_eq_false_iff_not]
  omega
set_option maxRecDepth 8000 in
set_option maxHeartbeats 4000000 in
theorem rHas_ok (p : Option Addr) (L cap : Nat) (xs : List Nat) (s : ByteArray) (w : World) (hL : L = xs.length) (hb : BIn w p xs) (h1 : (1 : Int) ≤ (L : Int)) (h2 : (L : Int) ≤ 8192) (hs : (s.size : Int) ≤ 256) (r : Bool) (hr : hasB xs s = r) :
    Calls Try.prog 14 #[.slice p L cap, .string s] w fun e w' => e = .returned (.tuple #[.bool r, .int .i64 0]) ∧ Below w.heap.size w w' := by
  have g1 : decide ((256 : Int) < (s.size : Int)) = false := decide_eq_false (by omega)
  obtain ⟨m, hm⟩ : ∃ m, 8 * L = m := ⟨_, rfl⟩
  have hmI : (8 : Int) * (L : Int) = (m : Int) := by omega
  have HR : Hid (((marksN s m).all fun n => (xs.getD (n / 8) 0).testBit (n % 8)) = r) := by
    show _ = _
    rw [← hr, ← hm, hL]; rfl
  have HX : Hid (L = xs.length ∧ BIn w p xs ∧ 8 * L = m) := ⟨hL, hb, hm⟩
  have HMk : Hid (∀ w : World, Calls Try.prog 22 #[.string s, .int .i64 m] w fun e w' => ∃ v, e = .returned v ∧ w'.ownsRow w.heap.size 3 1 v 4 (Is (marksN s m)) ∧ Below w.heap.size w w') := fun w => rmarks_any s m w hs (by omega) (by omega)
  obtain ⟨bb, oo, hp, hcell⟩ := hb.1 (by omega)
  subst hp
  clear hr hm hb hL hcell
  go_enter Try.func14, Try.ntmps14
  go_wp2_with fail
  refine (HMk.out _).mono ?_
  rintro e w3 ⟨v3, rfl, ho3, hb3⟩
  obtain ⟨gl, cl, hfour, hgl⟩ := four_of ho3
  have HV := hfour.v
  subst HV
  have HF : Hid (Four w3 (.slice (some ⟨gl, 0, none⟩) 4 cl) gl cl (marksN s m)) := hfour
  have HB3 : Hid (Below w.heap.size w w3) := hb3
  clear hb3 ho3 hfour hgl
  go_wp2
  go_loopw [7] (fun i wr => ∃ k : Nat, k ≤ 4 ∧ i = .int .i64 k ∧ Hid (∀ j, j < k → (xs.getD ((marksN s m).getD j 0 / 8) 0).testBit ((marksN s m).getD j 0 % 8) = true) ∧ Below w3.heap.size w3 wr) (fun i _ => 4 - (intOf i).toNat)
  case atStart => exact ⟨0, by omega, rfl, fun j hj => absurd hj (by omega), Below.refl _ _⟩
  case round =>
    obtain ⟨k, hk, rfl, hall, hbr⟩ := hrel
    have HBR : Hid (Below w3.heap.size w3 wr) := hbr
    clear hbr
    by_cases hkn : k < 4
    · obtain ⟨y, hy⟩ : ∃ y, (marksN s m).getD k 0 = y := ⟨_, rfl⟩
      have cy := (HF.out.same (HBR.out.block gl (by obtain ⟨cur, hg, _⟩ := HF.out.row; exact lt_heap hg))).cell hkn
      rw [hy] at cy
      have hym : y < m := by rw [← hy, marksN_at s m k hkn]; exact Nat.mod_lt _ (by omega)
      have hyL : y / 8 < L := by have := HX.out.2.2; omega
      obtain ⟨jj, hjj⟩ : ∃ jj, y / 8 = jj := ⟨_, rfl⟩
      obtain ⟨cc, hcc⟩ : ∃ cc, xs.getD (y / 8) 0 = cc := ⟨_, rfl⟩
      have hck : wr.cell? ⟨bb, oo + y / 8, none⟩ = some (.int .u8 (xs.getD (y / 8) 0 : Nat)) := ((HX.out.2.1.below HB3.out).below HBR.out).cell (y / 8) (by have := HX.out.1; omega)
      have hc8 : cc < 256 := by rw [← hcc]; exact getD_lt HX.out.2.1.2 _
      rw [hcc] at hck
      rw [hjj] at hck hyL
      obtain ⟨rr, hrr⟩ : ∃ rr, y % 8 = rr := ⟨_, rfl⟩
      obtain ⟨mk, hmk⟩ : ∃ mk, 2 ^ rr = mk := ⟨_, rfl⟩
      have hpl : mk < 256 := by rw [← hmk, ← hrr]; exact pow_lt y
      have hp0 : 0 < mk := by rw [← hmk]; exact Nat.pow_pos (by decide)
      have hpm : (2 : Int) ^ rr % 256 = (mk : Int) := by
        have : (2 : Int) ^ rr = ((2 ^ rr : Nat) : Int) := by simp
        rw [this, hmk]
        omega
      have hI : (y : Int) / 8 = (jj : Int) := by omega
      have hI2 : (y : Int) % 8 = (rr : Int) := by omega
      have hr8 : (rr : Int) < 8 := by omega
      have hjI : (jj : Int) < (L : Int) := by omega
      have hjw : IntKind.i64.wrap (jj : Int) = (jj : Int) := by rw [IntKind.wrap_i64]; omega
      have hrw : IntKind.i64.wrap (rr : Int) = (rr : Int) := by rw [IntKind.wrap_i64]; omega
      have hyI : (y : Int) ≤ 65536 := by omega
      have hkI : (k : Int) < 4 := by omega
      obtain ⟨qd, hqd⟩ : ∃ qd, cc / mk = qd := ⟨_, rfl⟩
      have hqI : (cc : Int) / (mk : Int) = (qd : Int) := by rw [← hqd]; exact (Int.natCast_ediv cc mk).symm
      have hq8 : qd < 256 := by have := Nat.div_le_self cc mk; omega
      have HY : Hid ((marksN s m).getD k 0 = y ∧ k < 4 ∧ xs.getD (y / 8) 0 = cc ∧ y % 8 = rr ∧ (qd % 2 = 0 ↔ cc.testBit rr = false)) := ⟨hy, hkn, hcc, hrr, by rw [← hqd, ← hmk]; exact bit_div cc rr⟩
      clear hy hjj hcc hmk hrr hkn hym hqd
      by_cases hq2 : qd % 2 = 0
      · have t1 : ((qd : Int) % 2 == 0) = true := by simp; omega
        have HD : Hid (r = false) := by
          show _ = _
          rw [← HR.out, List.all_eq_false]
          refine ⟨y, ?_, ?_⟩
          · rw [← HY.out.1]
            rw [List.getD_eq_getElem?_getD, List.getElem?_eq_getElem (by rw [marksN_len]; exact HY.out.2.1)]
            exact List.getElem_mem _
          · rw [HY.out.2.2.1, HY.out.2.2.2.1, HY.out.2.2.2.2.1 hq2]; simp
        clear hq2 hall
        go_wp2
        go_quiet (fail)
        go_wp2
        go_ret2
        exact ⟨by rw [HD.out]; rfl, below_bt HB3.out (below_bt HBR.out (below_dr _ _))⟩
      · have t1 : ((qd : Int) % 2 == 0) = false := by simp; omega
        have HD : Hid (∀ j, j < k + 1 → (xs.getD ((marksN s m).getD j 0 / 8) 0).testBit ((marksN s m).getD j 0 % 8) = true) := fun j hj => by
          rcases Nat.lt_or_ge j k with h' | h'
          · exact hall.out j h'
          · obtain rfl : j = k := by omega
            rw [HY.out.1, HY.out.2.2.1, HY.out.2.2.2.1]
            cases hb : cc.testBit rr with
            | true => rfl
            | false => exact absurd (HY.out.2.2.2.2.2 hb) hq2
        clear hq2 hall
        go_wp2
        go_quiet (fail)
        go_wp2
        go_roundw
        case rel => exact ⟨k + 1, by have := HY.out; omega, by go_num, HD, below_bt HBR.out (below_dr _ _)⟩
        case measure => have := HY.out; simp [intOf]; omega
    · obtain rfl : k = 4 := by omega
      have HD : Hid (r = true) := by
        show _ = _
        rw [← HR.out, List.all_eq_true]
        intro y hy
        obtain ⟨j, hj, rfl⟩ := List.getElem_of_mem hy
        have := hall.out j (by rw [marksN_len] at hj; exact hj)
        rw [List.getD_eq_getElem?_getD (l := marksN s m), List.getElem?_eq_getElem hj, Option.getD_some] at this
        exact this
      clear hall
      go_wp2
      go_ret2
      exact ⟨by rw [HD.out]; rfl, below_bt HB3.out HBR.out⟩
theorem rHas_u (p : Option Addr) (L cap : Nat) (xs : List Nat) (s : ByteArray) (w : World) (hL : L = xs.length) (hb : BIn w p xs) (r : Bool) (hr : hasR xs s = r) (E : Nat) (hE : hasE xs.length s = E) :
    Calls Try.prog 14 #[.slice p L cap, .string s] w fun e w' => e = .returned (.tuple #[.bool r, .int .i64 E]) ∧ Below w.heap.size w w' := by
  subst hE hr
  by_cases h1 : L < 1 ∨ 8192 < L
  · have e : hasE xs.length s = 2 := by unfold hasE; rw [if_pos (by omega)]
    have er : hasR xs s = false := by unfold hasR; rw [e]; rfl
    rw [e, er]
    by_cases h3 : (L : Int) < 1
    · clear h1 hL hb e er
      go_enter Try.func14, Try.ntmps14
      go_wp2
      go_ret2
      exact ⟨rfl, Below.refl _ _⟩
    · have h4 : (8192 : Int) < (L : Int) := by omega
      clear h1 hL hb e er
      go_enter Try.func14, Try.ntmps14
      go_wp2
      go_ret2
      exact ⟨rfl, Below.refl _ _⟩
  · by_cases h2 : 256 < s.size
    · have e : hasE xs.length s = 3 := by unfold hasE; rw [if_neg (by omega), if_pos h2]
      have er : hasR xs s = false := by unfold hasR; rw [e]; rfl
      rw [e, er]
      have h3 : (1 : Int) ≤ (L : Int) := by omega
      have h4 : (L : Int) ≤ 8192 := by omega
      have h5 : (256 : Int) < (s.size : Int) := by omega
      clear h1 h2 hL hb e er
      go_enter Try.func14, Try.ntmps14
      go_wp2
      go_ret2
      exact ⟨rfl, Below.refl _ _⟩
    · have e : hasE xs.length s = 0 := by unfold hasE; rw [if_neg (by omega), if_neg h2]
      have er : hasR xs s = hasB xs s := by unfold hasR; rw [if_pos e]
      rw [e, er]
      exact rHas_ok p L cap xs s w hL hb (by omega) (by omega) (by omega) _ rfl
end Go.Proofs.Ytidjgilipffdpaa
namespace Go.Proofs.Ytidjgilipffdpaa
open Go.RowKit Go.WideShapes

def InsIn (w : World) (q : Option Addr) (l : List Nat) : Prop := 0 < l.length → ∃ b o, q = some ⟨b, o, none⟩ ∧ ∀ i, i < l.length → w.cell? ⟨b, o + i, none⟩ = some (.int .i64 (l.getD i 0 : Nat))
theorem InsIn.below {w w' : World} {q : Option Addr} {l : List Nat} (h : InsIn w q l) (hb : Below w.heap.size w w') : InsIn w' q l := fun h0 => by
  obtain ⟨b, o, hq, hc⟩ := h h0
  exact ⟨b, o, hq, fun i hi => (hb.cell (World.block_lt_of_cell? _ _ (hc i hi))).trans (hc i hi)⟩
def marksE (s : ByteArray) (z : Int) : Nat := if 256 < s.size then 3 else if z < 1 ∨ 65536 < z then 2 else 0
def marksR (s : ByteArray) (z : Int) : List Nat := if marksE s z = 0 then marksN s z.toNat else []
theorem Marks_u (s : ByteArray) (z : Int) (w : World) (l : List Nat) (hl : marksR s z = l) (E : Nat) (hE : marksE s z = E) :
    Calls Try.prog 9 #[.string s, .int .i64 z] w fun e w' => ∃ q n c, e = .returned (.tuple #[.slice q n c, .int .i64 E]) ∧ n = l.length ∧ InsIn w' q l ∧ Below w.heap.size w w' := by
  subst hl hE
  by_cases h1 : 256 < s.size
  · have e : marksE s z = 3 := by unfold marksE; rw [if_pos h1]
    have er : marksR s z = [] := by unfold marksR; rw [e]; rfl
    rw [e, er]
    exact (Marks_long s z w (by omega)).mono fun _ _ ⟨a, b⟩ => ⟨none, 0, 0, a, rfl, fun h => absurd h (by simp), by rw [b]; exact Below.refl _ _⟩
  · by_cases h2 : z < 1 ∨ 65536 < z
    · have e : marksE s z = 2 := by unfold marksE; rw [if_neg h1, if_pos h2]
      have er : marksR s z = [] := by unfold marksR; rw [e]; rfl
      rw [e, er]
      exact (Marks_arg s z w (by omega) h2).mono fun _ _ ⟨a, b⟩ => ⟨none, 0, 0, a, rfl, fun h => absurd h (by simp), by rw [b]; exact Below.refl _ _⟩
    · have e : marksE s z = 0 := by unfold marksE; rw [if_neg h1, if_neg h2]
      have er : marksR s z = marksN s z.toNat := by unfold marksR; rw [if_pos e]
      rw [e, er]
      obtain ⟨m, rfl⟩ : ∃ m : Nat, z = m := ⟨z.toNat, by omega⟩
      refine (Marks_ok s m w (by omega) (by omega) (by omega)).mono ?_
      rintro _ w' ⟨g, rfl, hg, _, hb⟩
      exact ⟨some ⟨g, 0, none⟩, 4, 4, rfl, rfl, fun _ => ⟨g, 0, rfl, fun i hi => by rw [Nat.zero_add]; exact is_cell hg hi⟩, hb⟩
theorem rMarks_arg (s : ByteArray) (z : Int) (w : World) (hs : (s.size : Int) ≤ 256) (hz : z < 1 ∨ 65536 < z) :
    Calls Try.prog 15 #[.string s, .int .i64 z] w fun e w' => e = .returned (.tuple #[.slice none 0 0, .int .i64 2]) ∧ w' = w := by
  rcases hz with h | h
  · go_enter Try.func15, Try.ntmps15
    go_wp2
    go_ret2
    exact ⟨rfl, rfl⟩
  · have h' : ¬ (z < 1) := by omega
    go_enter Try.func15, Try.ntmps15
    go_wp2
    go_ret2
    exact ⟨rfl, rfl⟩
theorem rMarks_u (s : ByteArray) (z : Int) (w : World) (l : List Nat) (hl : marksR s z = l) (E : Nat) (hE : marksE s z = E) :
    Calls Try.prog 15 #[.string s, .int .i64 z] w fun e w' => ∃ q n c, e = .returned (.tuple #[.slice q n c, .int .i64 E]) ∧ n = l.length ∧ InsIn w' q l ∧ Below w.heap.size w w' := by
  subst hl hE
  by_cases h1 : 256 < s.size
  · have e : marksE s z = 3 := by unfold marksE; rw [if_pos h1]
    have er : marksR s z = [] := by unfold marksR; rw [e]; rfl
    rw [e, er]
    have h1I : (256 : Int) < (s.size : Int) := by omega
    clear h1 e er
    go_enter Try.func15, Try.ntmps15
    go_wp2
    go_ret2
    exact ⟨none, 0, 0, rfl, rfl, fun h => absurd h (by simp), Below.refl _ _⟩
  · by_cases h2 : z < 1 ∨ 65536 < z
    · have e : marksE s z = 2 := by unfold marksE; rw [if_neg h1, if_pos h2]
      have er : marksR s z = [] := by unfold marksR; rw [e]; rfl
      rw [e, er]
      exact (rMarks_arg s z w (by omega) h2).mono fun _ _ ⟨a, b⟩ => ⟨none, 0, 0, a, rfl, fun h => absurd h (by simp), by rw [b]; exact Below.refl _ _⟩
    · have e : marksE s z = 0 := by unfold marksE; rw [if_neg h1, if_neg h2]
      have er : marksR s z = marksN s z.toNat := by unfold marksR; rw [if_pos e]
      rw [e, er]
      obtain ⟨m, rfl⟩ : ∃ m : Nat, z = m := ⟨z.toNat, by omega⟩
      have h1I : (s.size : Int) ≤ 256 := by omega
      have h3 : (1 : Int) ≤ (m : Int) := by omega
      have h4 : (m : Int) ≤ 65536 := by omega
      clear h1 h2 e er
      go_enter Try.func15, Try.ntmps15
      go_wp2_with fail
      refine (rmarks_any s m _ h1I (by omega) h4).mono ?_
      rintro e w3 ⟨v3, rfl, ho3, hb3⟩
      obtain ⟨gl, cl, hfour, hgl⟩ := four_of ho3
      have HV := hfour.v
      subst HV
      have HF : Hid (Four w3 (.slice (some ⟨gl, 0, none⟩) 4 cl) gl cl (marksN s m)) := hfour
      have HB3 : Hid (Below w.heap.size w w3) := hb3
      clear hb3 ho3 hfour hgl
      go_wp2
      go_ret2
      exact ⟨some ⟨gl, 0, none⟩, 4, cl, rfl, rfl, fun _ => ⟨gl, 0, rfl, fun i hi => by rw [Nat.zero_add]; exact HF.out.cell hi⟩, HB3.out⟩
set_option maxRecDepth 8000 in
set_option maxHeartbeats 1000000 in
theorem sameInts_yes (q q' : Option Addr) (n n' c c' : Nat) (l : List Nat) (w : World) (hn : n = l.length) (hn' : n' = l.length) (hl : InsIn w q l) (hl' : InsIn w q' l) (hN : l.length ≤ 1000) :
    Calls Try.prog 16 #[.slice q n c, .slice q' n' c'] w fun e w' => e = .returned (.bool true) ∧ Below w.heap.size w w' := by
  obtain rfl : n' = n := by omega
  have HN : Hid (n' = l.length) := hn
  have HS : Hid (InsIn w q l ∧ InsIn w q' l) := ⟨hl, hl'⟩
  have hnI : (n' : Int) ≤ 1000 := by omega
  clear hn hn' hl hl' hN
  go_enter Try.func16, Try.ntmps16
  go_wp2
  go_loopw [5] (fun i wr => ∃ k : Nat, k ≤ n' ∧ i = .int .i64 k ∧ Below w.heap.size w wr) (fun i _ => n' - (intOf i).toNat)
  case atStart => exact ⟨0, by omega, rfl, Below.refl _ _⟩
  case round =>
    obtain ⟨k, hk, rfl, hb⟩ := hrel
    have HB : Hid (Below w.heap.size w wr) := hb
    by_cases hkn : k < n'
    · have hkI : (k : Int) < (n' : Int) := by omega
      obtain ⟨b, o, rfl, hc⟩ := (HS.out.1.below hb) (by have := HN.out; omega)
      obtain ⟨b', o', rfl, hc'⟩ := (HS.out.2.below hb) (by have := HN.out; omega)
      have e1 := hc k (by have := HN.out; omega)
      have e2 := hc' k (by have := HN.out; omega)
      generalize l.getD k 0 = x at e1 e2
      have HK : Hid (k < n') := hkn
      clear hc hc' hb hkn
      go_wp2
      go_quiet (fail)
      go_wp2
      go_roundw
      case rel => exact ⟨k + 1, by have := HK.out; omega, by go_num, below_bt HB.out (below_dr _ _)⟩
      case measure => have := HK.out; simp [intOf]; omega
    · obtain rfl : k = n' := by omega
      clear hb
      go_wp2
      go_ret
      exact ⟨rfl, HB.out⟩
/-- What Make answers, as bytes. -/
def madeN (l : List ByteArray) (z : Int) : List Nat := if makeE l z = 0 then makeN l z.toNat else []
theorem Made.row {w w' : World} {v : Value} {l : List ByteArray} {z : Int} (h : Made w w' v l z) : ∃ q n c, v = .slice q n c ∧ n = (madeN l z).length ∧ BIn w' q (madeN l z) := by
  by_cases e : makeE l z = 0
  · obtain ⟨g, hv, hb, _⟩ := h.yes e
    have er : madeN l z = makeN l z.toNat := by unfold madeN; rw [if_pos e]
    rw [er]
    exact ⟨_, _, _, hv, by rw [makeN_len], bin_row hb (makeN_lt _ _)⟩
  · have er : madeN l z = [] := by unfold madeN; rw [if_neg e]
    rw [er]
    exact ⟨none, 0, 0, h.no e, rfl, fun h => absurd h (by simp), by simp⟩
theorem marksR_len (s : ByteArray) (z : Int) : (marksR s z).length ≤ 4 := by
  unfold marksR
  split
  · rw [marksN_len]; omega
  · simp
end Go.Proofs.Ytidjgilipffdpaa
namespace Go.Proofs.Ytidjgilipffdpaa.sieveMakes
open Go.ChangeShapes Go.WideShapes Go.ChangeAt Go.RowKit
open Go.ChangeMaps (open_string shut_string)
set_option linter.unusedVariables false

theorem own : ownKnob Try.prog.godebug = none := by kernel_rfl
theorem laidOut : laidOutB Try.prog = true := by kernel_rfl

theorem conv_of {w : World} {p : Option Addr} {n c : Nat} {xs : List Nat} (h : BIn w p xs) (hn : n = xs.length) : (convert 26 9 (.slice p n c)).run Try.prog w = .ok (.string (strOf xs)) w := bin_conv Try.underlying26 Try.underlying5 Try.underlying9 h hn c
set_option maxRecDepth 20000 in
set_option maxHeartbeats 8000000 in
theorem walk_main (q : Option Addr) (n c : Nat) (l : List ByteArray) (z : Int) (p : Option Addr) (nb cb : Nat) (xs : List Nat) (s : ByteArray) (w : World) (hn : n = l.length) (hl : StrsIn w q l) (hc : q = none → c = 0) (hnb : nb = xs.length) (hb : BIn w p xs) (hcb : p = none → cb = 0)
    (hN : (n : Int) ≤ 5000) (ht : (decide ((300 : Int) < (n : Int)) && decide ((n : Int) ≤ 4096)) = false) (hB : (nb : Int) ≤ 10000) (hS : (s.size : Int) ≤ 10000) :
    Calls Try.prog 4 #[.slice q n c, .int .i64 z, .slice p nb cb, .string s] w fun e w' => e = .returned (.bool true) ∧ Below w.heap.size w w' := by
  have HL : Hid ((n = l.length ∧ StrsIn w q l ∧ (q = none → c = 0)) ∧ (nb = xs.length ∧ BIn w p xs ∧ (p = none → cb = 0)) ∧ l.length ≤ 5000 ∧ xs.length ≤ 10000) := ⟨⟨hn, hl, hc⟩, ⟨hnb, hb, hcb⟩, by omega, by omega⟩
  obtain ⟨E, hE⟩ : ∃ E, makeE l z = E := ⟨_, rfl⟩
  obtain ⟨F, hF⟩ : ∃ F, hasE xs.length s = F := ⟨_, rfl⟩
  obtain ⟨r, hr⟩ : ∃ r, hasR xs s = r := ⟨_, rfl⟩
  obtain ⟨G, hG⟩ : ∃ G, marksE s z = G := ⟨_, rfl⟩
  obtain ⟨M, hM⟩ : ∃ M, marksR s z = M := ⟨_, rfl⟩
  have HE : Hid (makeE l z = E ∧ hasE xs.length s = F ∧ hasR xs s = r ∧ marksE s z = G ∧ marksR s z = M ∧ M.length ≤ 4) := ⟨hE, hF, hr, hG, hM, by rw [← hM]; exact marksR_len s z⟩
  have ht1 : ¬ ((300 : Int) < (n : Int) ∧ (n : Int) ≤ 4096) := by simpa using ht
  clear hn hl hc hnb hb hcb hE hF hr hG hM ht
  have HGo : Hid (∀ w1 : World, True) := fun _ => trivial
  by_cases h3 : (300 : Int) < (n : Int)
  all_goals
    first
      | (have h4 : (4096 : Int) < (n : Int) := by omega)
      | (have h4 : (n : Int) ≤ 300 := by omega)
    clear ht1 HGo
    go_enter Try.func4, Try.ntmps4
    go_wp2_with (at_builtin; refine wpList_append_bytes _ rfl _ _ rfl w.heap.size (.slice none 0 0) [] xs p nb cb rfl rfl HL.out.2.1.1 (World.ownsRow_nil _ _ _ _) HL.out.2.1.2.1 HL.out.2.1.2.2 (by have := HL.out.2.2; simp; omega) (Nat.le_refl _) ?_)
    intro x1 w1 hown1 hgr1
    have HO1 : Hid (w1.ownsRow w.heap.size 5 1 x1 xs.length (Bs xs)) := hown1
    have HB1 : Hid (Below w.heap.size w w1) := (Below.refl _ _).grown hgr1 (Nat.le_refl _) (fun k hk => by cases hk)
    clear hown1 hgr1
    go_wp2_with (at_builtin; refine wpList_append_strs _ rfl _ _ rfl w1.heap.size (.slice none 0 0) [] l q n c rfl rfl HL.out.1.1 (World.ownsRow_nil _ _ _ _) (HL.out.1.2.1.below HB1.out) HL.out.1.2.2 (by have := HL.out.2.2; simp; omega) (Nat.le_refl _) ?_)
    intro x2 w2 hown2 hgr2
    have HB12 : Hid (Below w1.heap.size w1 w2) := (Below.refl _ _).grown hgr2 (Nat.le_refl _) (fun k hk => by cases hk)
    have hown2' : w2.ownsRow w1.heap.size 9 1 x2 l.length (Ss l) := hown2
    obtain ⟨q2, c2, rfl, hs2⟩ := own_strs hown2'
    have HS2 : Hid (StrsIn w2 q2 l) := hs2
    have HB2 : Hid (Below w.heap.size w w2) := below_bt HB1.out HB12.out
    obtain ⟨p1, m1, c1, rfl, hm1, hi1⟩ : ∃ p1 m1 c1, x1 = .slice p1 m1 c1 ∧ m1 = xs.length ∧ BIn w1 p1 xs := by
      rcases HO1.out.2 with ⟨hv, hn0⟩ | ⟨g, cap, cur, hv, _⟩
      · subst hv
        exact ⟨none, 0, 0, rfl, hn0.symm, (own_bin HO1.out HL.out.2.1.2.1.2).1⟩
      · subst hv
        exact ⟨_, _, _, rfl, rfl, (own_bin HO1.out HL.out.2.1.2.1.2).1⟩
    have HI1 : Hid (m1 = xs.length ∧ BIn w2 p1 xs) := ⟨hm1, hi1.below HB12.out⟩
    obtain ⟨n2, hn2⟩ : ∃ n2, l.length = n2 := ⟨_, rfl⟩
    rw [hn2]
    have HN2 : Hid (l.length = n2) := hn2
    clear hown2 hown2' hgr2 hs2 hm1 hi1 hn2 HO1 HB12
    go_wp2_with fail
    refine (Make_u q2 n2 c2 l z _ HN2.out.symm HS2.out E HE.out.1).mono ?_
    rintro e w3 ⟨v3, rfl, hmd3⟩
    obtain ⟨p3, n3, c3, rfl, hn3, hb3⟩ := hmd3.row
    have HM3 : Hid (n3 = (madeN l z).length ∧ BIn w3 p3 (madeN l z)) := ⟨hn3, hb3⟩
    have HB23 : Hid (Below w2.heap.size w2 w3) := hmd3.below
    clear hmd3 hn3 hb3
    go_wp2_with fail
    refine (rMake_u q n c l z _ HL.out.1.1 ((HL.out.1.2.1.below HB2.out).below HB23.out) E HE.out.1).mono ?_
    rintro e w4 ⟨v4, rfl, hmd4⟩
    obtain ⟨p4, n4, c4, rfl, hn4, hb4⟩ := hmd4.row
    have HB24 : Hid (Below w2.heap.size w2 w4) := below_bt HB23.out hmd4.below
    have HM4 : Hid (n3 = (madeN l z).length ∧ BIn w4 p3 (madeN l z) ∧ n4 = (madeN l z).length ∧ BIn w4 p4 (madeN l z)) := ⟨HM3.out.1, HM3.out.2.below hmd4.below, hn4, hb4⟩
    clear hmd4 hn4 hb4 HM3
    go_wp2_with fail
    refine (Has_u p1 m1 c1 xs s _ HI1.out.1 (HI1.out.2.below HB24.out) r HE.out.2.2.1 F HE.out.2.1).mono ?_
    rintro e w5 ⟨rfl, hb5⟩
    have HB45 : Hid (Below w4.heap.size w4 w5) := hb5
    clear hb5
    go_wp2_with fail
    refine (rHas_u p nb cb xs s _ HL.out.2.1.1 (((HL.out.2.1.2.1.below HB2.out).below HB24.out).below HB45.out) r HE.out.2.2.1 F HE.out.2.1).mono ?_
    rintro e w6 ⟨rfl, hb6⟩
    have HB46 : Hid (Below w4.heap.size w4 w6) := below_bt HB45.out hb6
    clear hb6
    go_wp2_with fail
    refine (Marks_u s z _ M HE.out.2.2.2.2.1 G HE.out.2.2.2.1).mono ?_
    rintro e w7 ⟨q7, n7, c7, rfl, hn7, hi7, hb7⟩
    have HB47 : Hid (Below w4.heap.size w4 w7) := below_bt HB46.out hb7
    have HI7 : Hid (n7 = M.length ∧ InsIn w7 q7 M) := ⟨hn7, hi7⟩
    clear hb7 hn7 hi7
    go_wp2_with fail
    refine (rMarks_u s z _ M HE.out.2.2.2.2.1 G HE.out.2.2.2.1).mono ?_
    rintro e w8 ⟨q8, n8, c8, rfl, hn8, hi8, hb8⟩
    have HB48 : Hid (Below w4.heap.size w4 w8) := below_bt HB47.out hb8
    have HI8 : Hid (n7 = M.length ∧ InsIn w8 q7 M ∧ n8 = M.length ∧ InsIn w8 q8 M) := ⟨HI7.out.1, HI7.out.2.below hb8, hn8, hi8⟩
    clear hb8 hn8 hi8 HI7
    have cv3 : (convert 26 9 (.slice p3 n3 c3)).run Try.prog w8 = .ok (.string (strOf (madeN l z))) w8 := conv_of (HM4.out.2.1.below HB48.out) HM4.out.1
    have cv4 : (convert 26 9 (.slice p4 n4 c4)).run Try.prog w8 = .ok (.string (strOf (madeN l z))) w8 := conv_of (HM4.out.2.2.2.below HB48.out) HM4.out.2.2.1
    obtain ⟨S, hS⟩ : ∃ S, strOf (madeN l z) = S := ⟨_, rfl⟩
    rw [hS] at cv3 cv4
    clear hS
    go_wp2_with fail
    refine (sameInts_yes q7 q8 n7 n8 c7 c8 M _ HI8.out.1 HI8.out.2.2.1 HI8.out.2.1 HI8.out.2.2.2 (by have := HE.out.2.2.2.2.2; omega)).mono ?_
    rintro e w9 ⟨rfl, hb9⟩
    have HB29 : Hid (Below w2.heap.size w2 w9) := below_bt HB24.out (below_bt HB48.out hb9)
    clear hb9 cv3 cv4
    have cv1 : (convert 26 9 (.slice p1 m1 c1)).run Try.prog w9 = .ok (.string (strOf xs)) w9 := conv_of (HI1.out.2.below HB29.out) HI1.out.1
    have cv2 : (convert 26 9 (.slice p nb cb)).run Try.prog w9 = .ok (.string (strOf xs)) w9 := conv_of ((HL.out.2.1.2.1.below HB2.out).below HB29.out) HL.out.2.1.1
    obtain ⟨S', hS'⟩ : ∃ S, strOf xs = S := ⟨_, rfl⟩
    rw [hS'] at cv1 cv2
    clear hS'
    go_wp2
    go_ret
    exact ⟨rfl, below_bt HB2.out HB29.out⟩
theorem walk (v : Value) (l : List ByteArray) (z : Int) (vb : Value) (xs : List Nat) (s : ByteArray) (w : World) (h : StrRow w v l) (wz : (Lit.int .i64 z).wf = true) (hb : Row w vb xs) (ws : s.size ≤ maxLen) :
    Calls Try.prog 4 #[v, .int .i64 z, vb, .string s] w fun e w' => e = .returned (.bool true) ∧ Below w.heap.size w w' := by
  obtain ⟨q, c, rfl, hl, _, _, hc⟩ := h.lies
  obtain ⟨p, cb, rfl, hi, _, _, hcb⟩ := hb.lies
  by_cases h1 : (decide ((300 : Int) < (l.length : Int)) && decide ((l.length : Int) ≤ 4096)) = false ∧ (l.length : Int) ≤ 5000 ∧ (xs.length : Int) ≤ 10000 ∧ (s.size : Int) ≤ 10000
  · exact walk_main q l.length c l z p xs.length cb xs s w rfl hl hc rfl hi hcb h1.2.1 h1.1 h1.2.2.1 h1.2.2.2
  · have H1 : Hid (¬ ((decide ((300 : Int) < (l.length : Int)) && decide ((l.length : Int) ≤ 4096)) = false ∧ (l.length : Int) ≤ 5000 ∧ (xs.length : Int) ≤ 10000 ∧ (s.size : Int) ≤ 10000)) := h1
    generalize l.length = n at *
    generalize xs.length = nb at *
    clear h1 h hb hl hi
    by_cases a1 : (300 : Int) < (n : Int)
    · by_cases a2 : (n : Int) ≤ 4096
      · go_enter Try.func4, Try.ntmps4
        go_wp2
        go_ret
        exact ⟨rfl, Below.refl _ _⟩
      · by_cases a3 : (5000 : Int) < (n : Int)
        · go_enter Try.func4, Try.ntmps4
          go_wp2
          go_ret
          exact ⟨rfl, Below.refl _ _⟩
        · by_cases a4 : (10000 : Int) < (nb : Int)
          · go_enter Try.func4, Try.ntmps4
            go_wp2
            go_ret
            exact ⟨rfl, Below.refl _ _⟩
          · have a5 : (10000 : Int) < (s.size : Int) := by
              have := H1.out
              simp [a1, a2] at this
              omega
            go_enter Try.func4, Try.ntmps4
            go_wp2
            go_ret
            exact ⟨rfl, Below.refl _ _⟩
    · have a3 : ¬ (5000 : Int) < (n : Int) := by omega
      by_cases a4 : (10000 : Int) < (nb : Int)
      · go_enter Try.func4, Try.ntmps4
        go_wp2
        go_ret
        exact ⟨rfl, Below.refl _ _⟩
      · have a5 : (10000 : Int) < (s.size : Int) := by
          have := H1.out
          simp [a1] at this
          omega
        go_enter Try.func4, Try.ntmps4
        go_wp2
        go_ret
        exact ⟨rfl, Below.refl _ _⟩

/-! ### THE ROW's STEP -/
set_option maxRecDepth 100000 in
theorem lifted (os : Os) (started : os.Started) (H : Type) (enc : TypeId × Value → H) :
    ReturnsInHanded {} Try.checked os 4 .any (Rows.sieveMakesSpec.pre6 enc Try.prog Try.f4 Rows.sieveMakesRow.domain false) (Rows.sieveMakesSpec.post enc Try.prog Try.f4 false true false false) := by
  refine returnsInHanded_of_change (C := Try.checked) own started (by kernel_rfl) Try.func4
    (ChangeSpec.witness6 (enc := enc) (C := Try.checked) false ⟨#[], #[.slice none 0 0, .int .i64 0, .slice none 0 0, .string ByteArray.empty], []⟩ 8 (by kernel_rfl) (by kernel_rfl) (by kernel_rfl) (by kernel_rfl)) ?_
  intro W base args ds gs before hval0 hW hcnd _
  have hval : ∀ (j : Nat) t v, Try.f4.params[j]? = some t → args[j]? = some v → Value.okWide Try.prog W .any base t v := hval0
  have hW' := hW
  obtain ⟨p, q, hA0, hV, rfl, hfz, hnd⟩ := hW
  have hA : DataW.TrodAll enc Try.prog W 0 (fun _ => true) true Try.f4.params.toList args.toList ds p := hA0
  rw [Try.params4] at hA hval
  obtain ⟨v0, vs0, d0, ds0, p0, q0, hargs, rfl, rfl, h0, r0⟩ := trodAll_cons hA
  obtain ⟨v1, vs1, d1, ds1, p1, q1, rfl, rfl, rfl, h1, r1⟩ := trodAll_cons r0
  obtain ⟨v2, vs2, d2, ds2, p2, q2, rfl, rfl, rfl, h2, r2⟩ := trodAll_cons r1
  obtain ⟨v3, vs3, d3, ds3, p3, q3, rfl, rfl, rfl, h3, r3⟩ := trodAll_cons r2
  obtain ⟨rfl, rfl, rfl⟩ := trodAll_nil r3
  obtain rfl : args = #[v0, v1, v2, v3] := by cases args; simp_all
  obtain ⟨rfl, rfl⟩ := trodVars_none hV
  have k0 := h0
  have lt0 : ∀ x ∈ p0, x.block < W.heap.size := by obtain ⟨m, hm⟩ := k0; exact DataW.trod_lt m _ _ _ hm
  obtain ⟨qa0, la0, ca0, rfl⟩ := okWide_slice Try.underlying32 (hval 0 32 v0 rfl rfl)
  obtain ⟨fu0, hf0⟩ := h0
  obtain ⟨l0, w0⟩ := open_strs Try.underlying32 Try.underlying9 (by kernel_rfl) hf0
  obtain ⟨a1, rfl, rfl, rfl, w1⟩ := open_int Try.underlying3 (hval 1 3 v1 rfl rfl) h1
  have k2 := h2
  have lt2 : ∀ x ∈ p2, x.block < W.heap.size := by obtain ⟨m, hm⟩ := k2; exact DataW.trod_lt m _ _ _ hm
  obtain ⟨qa2, la2, ca2, rfl⟩ := okWide_slice Try.underlying26 (hval 2 26 v2 rfl rfl)
  obtain ⟨fu2, hf2⟩ := h2
  obtain ⟨l2, w2⟩ := open_bytes Try.underlying26 Try.underlying5 (by kernel_rfl) hf2
  obtain ⟨a3, rfl, rfl, rfl, w3⟩ := open_string Try.underlying9 (hval 3 9 v3 rfl rfl) h3
  clear hA0 hval0
  refine (walk (.slice qa0 la0 ca0) l0 a1 (.slice qa2 la2 ca2) l2 a3 W w0 w1 w2 w3).mono fun e W' ⟨he, bel⟩ => ?_
  subst he
  exact ⟨_, rfl, _, _, _, [], _, [], hW', trodAll_mk1 (shut_bool Try.underlying4 _), (trodAll_cons_mk (Below.trod laidOut (by kernel_rfl) (of_decide_eq_true (by kernel_rfl)) k0 bel lt0) (trodAll_cons_mk (shut_int Try.underlying3 w1) (trodAll_cons_mk (Below.trod laidOut (by kernel_rfl) (of_decide_eq_true (by kernel_rfl)) k2 bel lt2) (trodAll_cons_mk (shut_string Try.underlying9 w3) trodAll_mk0)))), rfl, bel.frame _, fun h => by cases h⟩

theorem over : Rows.sieveMakesRow.holds Try.pinned (OpenSpec.ofChange Rows.sieveMakesSpec) :=
  OpenClaim.holds_of_wide 4 Try.f4 rfl rfl rfl rfl rfl rfl rfl ⟨rfl, rfl, rfl, rfl, rfl⟩ rfl rfl rfl rfl rfl (by kernel_rfl) Try.func4 (by kernel_rfl)
    (of_decide_eq_true (by kernel_rfl)) (by unfold Func.isWrapper; first | (rw [if_pos (by decide +kernel)]; kernel_rfl) | (rw [if_neg (by decide +kernel)]; exact ⟨rfl, rfl⟩))
    (fun os started H enc _ => lifted os started H enc)

theorem proved : Rows.SieveMakesSaid := over
end Go.Proofs.Ytidjgilipffdpaa.sieveMakes
namespace Go.Proofs.Ytidjgilipffdpaa
theorem sieveMakes_holds : Rows.SieveMakesSaid := sieveMakes.proved
#print axioms sieveMakes_holds
end Go.Proofs.Ytidjgilipffdpaa
