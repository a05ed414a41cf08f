/-
  A sector held against the mark that is wanted: part, way by way.
-/
import Derived.Test.YtkjooekicbghdabJ02
import Derived.Laws.StructEq
namespace Go.Proofs.Ytkjooekicbghdab
open Go.RowKit Go.WideShapes

def frameR (e s p : Nat) (xs : List Nat) : List Nat × Nat := if e = 0 ∨ s = 0 then ([], 2) else if 4096 < xs.length then ([], 3) else (frameN e s p xs, 0)
structure Framed (w : World) (e s p : Nat) (r : ByteArray) (x : Ending) (w' : World) : Prop where
  is : ∃ v, x = .returned (.tuple #[v, .int .i64 (frameR e s p (numsOf r)).2]) ∧ w'.ownsRow w.heap.size 5 1 v (frameR e s p (numsOf r)).1.length (Bs (frameR e s p (numsOf r)).1)
  bel : Below w.heap.size w w'
theorem framed_bad {w : World} {e s p : Nat} {r : ByteArray} (h : e = 0 ∨ s = 0) : Framed w e s p r (.returned (.tuple #[.slice none 0 0, .int .i64 2])) w := by
  have : frameR e s p (numsOf r) = ([], 2) := by unfold frameR; rw [if_pos h]
  exact ⟨by rw [this]; exact ⟨_, rfl, World.ownsRow_nil _ _ _ _⟩, Below.refl _ _⟩
theorem framed_long {w : World} {e s p : Nat} {r : ByteArray} (h : ¬ (e = 0 ∨ s = 0)) (hl : 4096 < r.size) : Framed w e s p r (.returned (.tuple #[.slice none 0 0, .int .i64 3])) w := by
  have : frameR e s p (numsOf r) = ([], 3) := by unfold frameR; rw [if_neg h, if_pos (by rw [numsOf_len]; exact hl)]
  exact ⟨by rw [this]; exact ⟨_, rfl, World.ownsRow_nil _ _ _ _⟩, Below.refl _ _⟩
theorem framed_ok {w w' : World} {e s p : Nat} {r : ByteArray} {v : Value} (h : ¬ (e = 0 ∨ s = 0)) (hl : r.size ≤ 4096) (ho : w'.ownsRow w.heap.size 5 1 v (frameN e s p (numsOf r)).length (Bs (frameN e s p (numsOf r)))) (hb : Below w.heap.size w w') : Framed w e s p r (.returned (.tuple #[v, .int .i64 0])) w' := by
  have : frameR e s p (numsOf r) = (frameN e s p (numsOf r), 0) := by unfold frameR; rw [if_neg h, if_neg (by rw [numsOf_len]; omega)]
  exact ⟨by rw [this]; exact ⟨_, rfl, ho⟩, hb⟩
theorem beq0 {e : Nat} (h : e ≠ 0) : ((e : Int) == 0) = false := by simp; exact h
theorem Frame_any (e s p : Nat) (r : ByteArray) (w : World) (he : e < 4294967296) (hs : s < 4294967296) (hp : p < 4294967296) (hr : (r.size : Int) ≤ 10000) :
    Calls Try.prog 12 #[.int .u32 e, .int .u32 s, .int .u32 p, .string r] w fun x w' => Framed w e s p r x w' := by
  by_cases h0 : e = 0
  · subst h0
    go_enter Try.func12, Try.ntmps12
    go_wp2
    go_ret2
    exact framed_bad (.inl rfl)
  · have g0 := beq0 h0
    by_cases h1 : s = 0
    · subst h1
      have HH : Hid (e ≠ 0) := h0
      clear h0 he hs hp
      go_enter Try.func12, Try.ntmps12
      go_wp2
      go_ret2
      exact framed_bad (.inr rfl)
    · have g1 := beq0 h1
      have HH : Hid (¬ (e = 0 ∨ s = 0)) := by intro h; rcases h with h | h <;> contradiction
      have HE : Hid (e < 4294967296 ∧ s < 4294967296 ∧ p < 4294967296) := ⟨he, hs, hp⟩
      clear he hs hp h0 h1
      by_cases hl : 4096 < r.size
      · have hlI : (4096 : Int) < r.size := by omega
        have HL : Hid (4096 < r.size) := hl
        clear hl
        go_enter Try.func12, Try.ntmps12
        go_wp2
        go_ret2
        exact framed_long HH.out HL.out
      · have hlI : (r.size : Int) ≤ 4096 := by omega
        have HL : Hid (r.size ≤ 4096) := by show _ ≤ _; omega
        clear hl hr
        go_enter Try.func12, Try.ntmps12
        go_wp2_with (go_at_call 27; refine (frame_any e s p r _ HE.out.1 HE.out.2.1 HE.out.2.2 HL.out).mono ?_; rintro x w1 ⟨v, rfl, ho, hb⟩)
        go_ret2
        exact framed_ok HH.out HL.out ho hb
end Go.Proofs.Ytkjooekicbghdab
namespace Go.Proofs.Ytkjooekicbghdab
open Go.RowKit Go.WideShapes

theorem number_bytes {a0 a1 a2 a3 : Nat} (h : a0 < 256 ∧ a1 < 256 ∧ a2 < 256 ∧ a3 < 256) : ∀ c ∈ [a0, a1, a2, a3, 0, 0, 0, 0], c < 256 := by
  intro c hc
  simp only [List.mem_cons, List.not_mem_nil, or_false] at hc
  omega
end Go.Proofs.Ytkjooekicbghdab
namespace Go.Proofs.Ytkjooekicbghdab
open Go.RowKit Go.WideShapes

theorem St.appStr {w : World} {bx : List Box} {wc w2 : World} {v v2 : Value} {xs : List Nat} {s : ByteArray} (h : St w bx wc v xs) (ho : w2.ownsRow w.heap.size 5 1 v2 (xs.length + s.size) (Bs xs ++ Lib.strCells s)) (hg : wc.grownBy w2 v.ownBlock) : St w bx w2 v2 (xs ++ numsOf s) := by
  refine h.app ?_ hg
  rw [List.length_append, numsOf_len, Bs_app, ← strCells_Bs]
  exact ho
def lenV : Value → Nat
  | .slice _ n _ => n
  | _ => 0
def onWay (e s p n k : Nat) (r : List Nat) (z : Nat) : List Nat := framesK e s p n r k ++ (markL e s p k n (pieceL r k).length ++ (pieceL r k ++ List.replicate z 0))
theorem onWay_len (e s p n k : Nat) (r : List Nat) (z : Nat) : (onWay e s p n k r z).length = k * 128 + 16 + (pieceL r k).length + z := by
  unfold onWay; rw [List.length_append, framesK_len, List.length_append, markL_len, List.length_append, List.length_replicate]; omega
theorem onWay_snoc (e s p n k : Nat) (r : List Nat) (z : Nat) : onWay e s p n k r z ++ [0] = onWay e s p n k r (z + 1) := by
  unfold onWay; rw [List.replicate_succ']; simp only [List.append_assoc]
theorem onWay_full (e s p n k : Nat) (r : List Nat) (z : Nat) (h : (pieceL r k).length + z = 112) : onWay e s p n k r z = framesK e s p n r (k + 1) := by
  rw [framesK_snoc]; unfold onWay secL; rw [show 112 - (pieceL r k).length = z by omega]
theorem onWay_zero (e s p n k : Nat) (r : List Nat) (h1 : k < 256) (h2 : n < 256) (pl : Nat) (hp : (pieceL r k).length = pl) (h3 : pl ≤ 112) : framesK e s p n r k ++ le4 e ++ le4 s ++ le4 p ++ [k, n, pl % 256, pl / 256] ++ pieceL r k = onWay e s p n k r 0 := by
  unfold onWay markL
  rw [hp, show k % 256 = k by omega, show n % 256 = n by omega, show pl / 256 % 256 = pl / 256 by omega]
  simp only [List.append_assoc, List.replicate_zero, List.append_nil]
end Go.Proofs.Ytkjooekicbghdab
namespace Go.Proofs.Ytkjooekicbghdab
open Go.RowKit Go.WideShapes

abbrev OpenT := ByteArray × Nat × Nat × Nat
open Classical in
noncomputable def openR (e p : Nat) (xs : List Nat) : OpenT :=
  if e = 0 then (ByteArray.empty, 0, 0, 2)
  else if h : ∃ y : Nat × List Nat, IsRec e p xs y.1 y.2 then (strOf (Classical.choose h).2, (Classical.choose h).1, needsN (Classical.choose h).2.length, 0)
  else (ByteArray.empty, 0, 0, 0)
def openE (r : OpenT) : Value := .tuple #[.string r.1, .int .u32 r.2.1, .int .i64 r.2.2.1, .int .i64 r.2.2.2]
theorem openR_zero (p : Nat) (xs : List Nat) : openR 0 p xs = (ByteArray.empty, 0, 0, 2) := by unfold openR; rw [if_pos rfl]
theorem openR_yes {e p s : Nat} {xs r : List Nat} (he0 : e ≠ 0) (he : e < 4294967296) (hp : p < 4294967296) (h : IsRec e p xs s r) : openR e p xs = (strOf r, s, needsN r.length, 0) := by
  have hx : ∃ y : Nat × List Nat, IsRec e p xs y.1 y.2 := ⟨(s, r), h⟩
  unfold openR
  rw [if_neg he0, dif_pos hx]
  obtain ⟨h1, h2⟩ := rec_only he hp (Classical.choose_spec hx) h
  rw [h1, h2]
theorem openR_no {e p : Nat} {xs : List Nat} (he0 : e ≠ 0) (h : ∀ s r, ¬ IsRec e p xs s r) : openR e p xs = (ByteArray.empty, 0, 0, 0) := by
  unfold openR
  rw [if_neg he0, dif_neg (fun hx => by obtain ⟨y, hy⟩ := hx; exact h _ _ hy)]
/-! ### No record -/
theorem no_short {e p : Nat} {xs : List Nat} (h : xs.length < 128) : ∀ s r, ¬ IsRec e p xs s r := fun s r hr => by
  have h1 := rec_len hr
  have h2 := needsN_pos r.length
  omega
theorem no_head {e p : Nat} {xs : List Nat} (he : e < 4294967296) (hp : p < 4294967296) (h : numAt xs 4 = 0 ∨ xs.getD 13 0 = 0 ∨ xs.length < xs.getD 13 0 * 128) : ∀ s r, ¬ IsRec e p xs s r := fun s r hr => by
  obtain ⟨h1, h2, _, _⟩ := rec_dec he hp hr
  have h3 := rec_len hr
  have h4 := needsN_pos r.length
  have h5 := hr.salt0
  rw [h1, h2] at h
  omega
theorem no_sec {e p n k : Nat} {xs : List Nat} (he : e < 4294967296) (hp : p < 4294967296) (hn : xs.getD 13 0 = n) (hk : k < n) (h : ∀ s, ¬ OkSec e s p k n (secAt xs k)) : ∀ s r, ¬ IsRec e p xs s r := fun s r hr => by
  obtain ⟨h1, h2, _, h4⟩ := rec_dec he hp hr
  rw [hn] at h2
  subst h2
  exact h s (h4 k hk)
theorem no_long {e p n : Nat} {xs : List Nat} (he : e < 4294967296) (hp : p < 4294967296) (hn : xs.getD 13 0 = n) (h : 4096 < (decK xs n).length) : ∀ s r, ¬ IsRec e p xs s r := fun s r hr => by
  obtain ⟨h1, h2, h3, _⟩ := rec_dec he hp hr
  rw [hn] at h2
  subst h2
  rw [h3] at h
  have := hr.len
  omega
theorem no_other {e p n : Nat} {xs : List Nat} (he : e < 4294967296) (hp : p < 4294967296) (hn : xs.getD 13 0 = n) (h : ¬ frameN e (numAt xs 4) p (decK xs n) = xs.take (n * 128)) : ∀ s r, ¬ IsRec e p xs s r := fun s r hr => by
  obtain ⟨h1, h2, h3, _⟩ := rec_dec he hp hr
  rw [hn] at h2
  subst h2
  rw [h3, h1] at h
  exact h hr.pre.symm
theorem yes_other {e p n : Nat} {xs : List Nat} (hb : ∀ c ∈ xs, c < 256) (hs : numAt xs 4 ≠ 0) (hl : n * 128 ≤ xs.length) (hd : (decK xs n).length ≤ 4096) (h : frameN e (numAt xs 4) p (decK xs n) = xs.take (n * 128)) : IsRec e p xs (numAt xs 4) (decK xs n) ∧ needsN (decK xs n).length = n := by
  have hn : needsN (decK xs n).length = n := by
    have := congrArg List.length h
    rw [frameN_len, List.length_take] at this
    omega
  exact ⟨⟨hs, numAt_lt hb 4, hd, decK_byte hb n, by rw [hn]; exact h.symm⟩, hn⟩
theorem nums_strOf {xs : List Nat} (h : ∀ c ∈ xs, c < 256) : numsOf (strOf xs) = xs := by
  unfold numsOf
  rw [strOf_list, List.map_map]
  conv => rhs; rw [← List.map_id xs]
  apply List.map_congr_left
  intro c hc
  have := h c hc
  simp; omega
theorem sec_getD (xs : List Nat) (k j : Nat) (hj : j < 128) : (secAt xs k).getD j 0 = xs.getD (k * 128 + j) 0 := by
  simp [secAt, List.getD, hj]
theorem numAt_sec0 (xs : List Nat) : numAt (xs.drop 4) 0 = numAt xs 4 := numAt_drop xs 4
theorem results_tmp4 {fn : Func} {t u v x : Tmp} (h : fn.results = #[.tmp t, .tmp u, .tmp v, .tmp x]) (tmps : Array Value) (P : Program) (w : World) :
    (results fn tmps).run P w = .ok (.tuple #[tmps.getD t undef, tmps.getD u undef, tmps.getD v undef, tmps.getD x undef]) w := by
  simp [results, h]
theorem conv_at {w : World} {p : Option Addr} {xs : List Nat} {n c : Nat} (h : BIn w p xs) (hn : n = xs.length) : (convert 22 9 (.slice p n c)).run Try.prog w = .ok (.string (strOf xs)) w := bin_conv Try.underlying22 Try.underlying5 Try.underlying9 h hn c
end Go.Proofs.Ytkjooekicbghdab
namespace Go.Proofs.Ytkjooekicbghdab
open Go.RowKit Go.WideShapes

theorem below_dr (w : World) (n : Nat) : Below w.heap.size w (w.drewN n) := ⟨rfl, rfl, rfl, Nat.le_refl _, fun _ _ => rfl⟩
theorem ret_zero {e p : Nat} {xs : List Nat} {R : OpenT} (he0 : e ≠ 0) (h : ∀ s r, ¬ IsRec e p xs s r) (hR : openR e p xs = R) : Ending.returned (.tuple #[.string ByteArray.empty, .int .u32 0, .int .i64 0, .int .i64 0]) = .returned (openE R) := by
  rw [← hR, openR_no he0 h]; rfl
theorem ret_rec {e p s n : Nat} {xs r : List Nat} {R : OpenT} (he0 : e ≠ 0) (he : e < 4294967296) (hp : p < 4294967296) (h : IsRec e p xs s r) (hn : needsN r.length = n) (hR : openR e p xs = R) : Ending.returned (.tuple #[.string (strOf r), .int .u32 s, .int .i64 n, .int .i64 0]) = .returned (openE R) := by
  rw [← hR, openR_yes he0 he hp h, ← hn]; rfl
theorem strs_eq {xs ys : List Nat} (hx : ∀ c ∈ xs, c < 256) (hy : ∀ c ∈ ys, c < 256) : ((strOf xs).toList == (strOf ys).toList) = decide (xs = ys) := by
  rw [ByteArray.toList_eq, ByteArray.toList_eq]
  by_cases h : xs = ys
  · subst h; simp
  · simp only [h, decide_false]
    exact beq_eq_false_iff_ne.2 (fun e => h ((strOf_eq hx hy).1 e))
theorem body_in {w : World} {b o k z : Nat} {xs : List Nat} (h : BIn w (some ⟨b, o, none⟩) xs) (hz : sizeOf2 (secAt xs k) = z) : BIn w (some ⟨b, o + k * 128 + 16, none⟩) (bodyOf (secAt xs k)) := by
  have := (((h.drop' (k * 128)).take' 128).drop' 16).take' z
  unfold bodyOf
  rw [hz]
  exact this
theorem body_len {xs : List Nat} {k z : Nat} (hl : (k + 1) * 128 ≤ xs.length) (hz : sizeOf2 (secAt xs k) = z) (hz1 : z ≤ 112) : (bodyOf (secAt xs k)).length = z := by
  unfold bodyOf
  rw [List.length_take, List.length_drop, secAt_len hl, hz]
  omega
theorem decK_len_le (xs : List Nat) (k : Nat) (h : ∀ i, i < k → sizeOf2 (secAt xs i) ≤ 112) : (decK xs k).length ≤ k * 112 := by
  induction k with
  | zero => exact Nat.le_refl _
  | succ k ih =>
    rw [decK_snoc, List.length_append]
    have h1 := ih (fun i hi => h i (by omega))
    have h2 := h k (by omega)
    have h3 : (bodyOf (secAt xs k)).length ≤ sizeOf2 (secAt xs k) := by unfold bodyOf; rw [List.length_take]; omega
    omega
end Go.Proofs.Ytkjooekicbghdab
namespace Go.Proofs.Ytkjooekicbghdab
open Go.RowKit Go.WideShapes

theorem drop_in0 {w : World} {p : Option Addr} {xs : List Nat} (h : xs.length = 0) : BIn w p xs := by
  obtain rfl := List.eq_nil_of_length_eq_zero h
  exact ⟨fun h => by simp at h, by simp⟩
def allZ (xs : List Nat) : Bool := decide (∀ c ∈ xs, c = 0)
end Go.Proofs.Ytkjooekicbghdab
namespace Go.Proofs.Ytkjooekicbghdab
open Go.RowKit Go.WideShapes

set_option maxRecDepth 8000 in
set_option maxHeartbeats 2000000 in
theorem part_ne0 (e s p i n z a0 a1 a2 a3 a4 k : Nat) (b o c : Nat) (xs : List Nat) (w : World) (hx : xs.length = 128) (hc : 128 ≤ c) (hcm : c ≤ maxLen) (hb : BIn w (some ⟨b, o, none⟩) xs) (hm : markOfN xs = .agg #[.int .u32 a0, .int .u32 a1, .int .u32 a2, .int .i64 a3, .int .i64 a4, .int .i64 k]) (hne : a0 ≠ e) :
    Calls Try.prog 40 #[.slice (some ⟨b, o, none⟩) 128 c, markV e s p i n z] w fun x w' => x = .returned (.tuple #[.slice none 0 0, .bool false]) ∧ Below w.heap.size w w' := by
  have g : ((a0 : Int) == (e : Int)) = false := by simp; omega
  clear hne
  have HX : Hid (xs.length = 128) := hx
  have HB : Hid (BIn w (some ⟨b, o, none⟩) xs) := hb
  have HCM : Hid (c ≤ maxLen) := hcm
  have h16c : (16 : Int) < c := by omega
  have hcI : (128 : Int) ≤ c := by omega
  have HC : Hid (128 ≤ c) := hc
  have HM : Hid (markOfN xs = .agg #[.int .u32 a0, .int .u32 a1, .int .u32 a2, .int .i64 a3, .int .i64 a4, .int .i64 k]) := hm
  clear hx hb hc hcm hm
  unfold markV
  go_enter Try.func40, Try.ntmps40
  go_wp2_with fail
  refine (markOf_any (some ⟨b, o, none⟩) xs 128 c _ HX.out.symm (by have := HX.out; omega) HC.out (HB.out.alloc _)).mono ?_
  rintro x w1 ⟨ex, hb1⟩
  rw [HM.out] at ex
  subst ex
  have hbw : Below (w.alloc (.cells #[.int .u32 e, .int .u32 s, .int .u32 p, .int .i64 i, .int .i64 n, .int .i64 z] 80)).heap.size (w.alloc (.cells #[.int .u32 e, .int .u32 s, .int .u32 p, .int .i64 i, .int .i64 n, .int .i64 z] 80)) w1 := hb1
  have hbx : w1.heap[w.heap.size]? = some (.cells #[.int .u32 e, .int .u32 s, .int .u32 p, .int .i64 i, .int .i64 n, .int .i64 z] 80 (0, 0)) := (hbw.block _ (by simp)).trans (heap_alloc_new w _)
  have hlt : w.heap.size < w1.heap.size := lt_heap hbx
  have q0 : w1.cell? ⟨w.heap.size, 0, none⟩ = some (.int .u32 e) := cell_of_row w1 _ 0 _ _ _ hbx
  have q1 : w1.cell? ⟨w.heap.size, 1, none⟩ = some (.int .u32 s) := cell_of_row w1 _ 1 _ _ _ hbx
  have q2 : w1.cell? ⟨w.heap.size, 2, none⟩ = some (.int .u32 p) := cell_of_row w1 _ 2 _ _ _ hbx
  have q3 : w1.cell? ⟨w.heap.size, 3, none⟩ = some (.int .i64 i) := cell_of_row w1 _ 3 _ _ _ hbx
  have q4 : w1.cell? ⟨w.heap.size, 4, none⟩ = some (.int .i64 n) := cell_of_row w1 _ 4 _ _ _ hbx
  have q5 : w1.cell? ⟨w.heap.size, 5, none⟩ = some (.int .i64 z) := cell_of_row w1 _ 5 _ _ _ hbx
  have f5 : w1.frozen? ⟨w.heap.size, 5, none⟩ = false := by simp [World.frozen?, hbx]
  have HW1 : Hid (Below w.heap.size w w1) := (below_alloc w _).trans (hbw.mono (by simp))
  have HZ : Hid (Below w.heap.size w ((w1.setCell ⟨w.heap.size, 5, none⟩ (.int .i64 k)).alloc (.cells #[.int .u32 a0, .int .u32 a1, .int .u32 a2, .int .i64 a3, .int .i64 a4, .int .i64 k] 80))) := (HW1.out.setCell (Nat.le_refl _) _).alloc (by simp [World.setCell]; omega) _
  clear hbx hbw hb1
  go_wp2
  go_ret2
  exact ⟨rfl, HZ.out⟩
set_option maxRecDepth 8000 in
set_option maxHeartbeats 2000000 in
theorem part_ne1 (e s p i n z a1 a2 a3 a4 k : Nat) (b o c : Nat) (xs : List Nat) (w : World) (hx : xs.length = 128) (hc : 128 ≤ c) (hcm : c ≤ maxLen) (hb : BIn w (some ⟨b, o, none⟩) xs) (hm : markOfN xs = .agg #[.int .u32 e, .int .u32 a1, .int .u32 a2, .int .i64 a3, .int .i64 a4, .int .i64 k]) (hne : a1 ≠ s) :
    Calls Try.prog 40 #[.slice (some ⟨b, o, none⟩) 128 c, markV e s p i n z] w fun x w' => x = .returned (.tuple #[.slice none 0 0, .bool false]) ∧ Below w.heap.size w w' := by
  have g : ((a1 : Int) == (s : Int)) = false := by simp; omega
  clear hne
  have HX : Hid (xs.length = 128) := hx
  have HB : Hid (BIn w (some ⟨b, o, none⟩) xs) := hb
  have HCM : Hid (c ≤ maxLen) := hcm
  have h16c : (16 : Int) < c := by omega
  have hcI : (128 : Int) ≤ c := by omega
  have HC : Hid (128 ≤ c) := hc
  have HM : Hid (markOfN xs = .agg #[.int .u32 e, .int .u32 a1, .int .u32 a2, .int .i64 a3, .int .i64 a4, .int .i64 k]) := hm
  clear hx hb hc hcm hm
  unfold markV
  go_enter Try.func40, Try.ntmps40
  go_wp2_with fail
  refine (markOf_any (some ⟨b, o, none⟩) xs 128 c _ HX.out.symm (by have := HX.out; omega) HC.out (HB.out.alloc _)).mono ?_
  rintro x w1 ⟨ex, hb1⟩
  rw [HM.out] at ex
  subst ex
  have hbw : Below (w.alloc (.cells #[.int .u32 e, .int .u32 s, .int .u32 p, .int .i64 i, .int .i64 n, .int .i64 z] 80)).heap.size (w.alloc (.cells #[.int .u32 e, .int .u32 s, .int .u32 p, .int .i64 i, .int .i64 n, .int .i64 z] 80)) w1 := hb1
  have hbx : w1.heap[w.heap.size]? = some (.cells #[.int .u32 e, .int .u32 s, .int .u32 p, .int .i64 i, .int .i64 n, .int .i64 z] 80 (0, 0)) := (hbw.block _ (by simp)).trans (heap_alloc_new w _)
  have hlt : w.heap.size < w1.heap.size := lt_heap hbx
  have q0 : w1.cell? ⟨w.heap.size, 0, none⟩ = some (.int .u32 e) := cell_of_row w1 _ 0 _ _ _ hbx
  have q1 : w1.cell? ⟨w.heap.size, 1, none⟩ = some (.int .u32 s) := cell_of_row w1 _ 1 _ _ _ hbx
  have q2 : w1.cell? ⟨w.heap.size, 2, none⟩ = some (.int .u32 p) := cell_of_row w1 _ 2 _ _ _ hbx
  have q3 : w1.cell? ⟨w.heap.size, 3, none⟩ = some (.int .i64 i) := cell_of_row w1 _ 3 _ _ _ hbx
  have q4 : w1.cell? ⟨w.heap.size, 4, none⟩ = some (.int .i64 n) := cell_of_row w1 _ 4 _ _ _ hbx
  have q5 : w1.cell? ⟨w.heap.size, 5, none⟩ = some (.int .i64 z) := cell_of_row w1 _ 5 _ _ _ hbx
  have f5 : w1.frozen? ⟨w.heap.size, 5, none⟩ = false := by simp [World.frozen?, hbx]
  have HW1 : Hid (Below w.heap.size w w1) := (below_alloc w _).trans (hbw.mono (by simp))
  have HZ : Hid (Below w.heap.size w ((w1.setCell ⟨w.heap.size, 5, none⟩ (.int .i64 k)).alloc (.cells #[.int .u32 e, .int .u32 a1, .int .u32 a2, .int .i64 a3, .int .i64 a4, .int .i64 k] 80))) := (HW1.out.setCell (Nat.le_refl _) _).alloc (by simp [World.setCell]; omega) _
  clear hbx hbw hb1
  go_wp2
  go_ret2
  exact ⟨rfl, HZ.out⟩
set_option maxRecDepth 8000 in
set_option maxHeartbeats 2000000 in
theorem part_ne2 (e s p i n z a2 a3 a4 k : Nat) (b o c : Nat) (xs : List Nat) (w : World) (hx : xs.length = 128) (hc : 128 ≤ c) (hcm : c ≤ maxLen) (hb : BIn w (some ⟨b, o, none⟩) xs) (hm : markOfN xs = .agg #[.int .u32 e, .int .u32 s, .int .u32 a2, .int .i64 a3, .int .i64 a4, .int .i64 k]) (hne : a2 ≠ p) :
    Calls Try.prog 40 #[.slice (some ⟨b, o, none⟩) 128 c, markV e s p i n z] w fun x w' => x = .returned (.tuple #[.slice none 0 0, .bool false]) ∧ Below w.heap.size w w' := by
  have g : ((a2 : Int) == (p : Int)) = false := by simp; omega
  clear hne
  have HX : Hid (xs.length = 128) := hx
  have HB : Hid (BIn w (some ⟨b, o, none⟩) xs) := hb
  have HCM : Hid (c ≤ maxLen) := hcm
  have h16c : (16 : Int) < c := by omega
  have hcI : (128 : Int) ≤ c := by omega
  have HC : Hid (128 ≤ c) := hc
  have HM : Hid (markOfN xs = .agg #[.int .u32 e, .int .u32 s, .int .u32 a2, .int .i64 a3, .int .i64 a4, .int .i64 k]) := hm
  clear hx hb hc hcm hm
  unfold markV
  go_enter Try.func40, Try.ntmps40
  go_wp2_with fail
  refine (markOf_any (some ⟨b, o, none⟩) xs 128 c _ HX.out.symm (by have := HX.out; omega) HC.out (HB.out.alloc _)).mono ?_
  rintro x w1 ⟨ex, hb1⟩
  rw [HM.out] at ex
  subst ex
  have hbw : Below (w.alloc (.cells #[.int .u32 e, .int .u32 s, .int .u32 p, .int .i64 i, .int .i64 n, .int .i64 z] 80)).heap.size (w.alloc (.cells #[.int .u32 e, .int .u32 s, .int .u32 p, .int .i64 i, .int .i64 n, .int .i64 z] 80)) w1 := hb1
  have hbx : w1.heap[w.heap.size]? = some (.cells #[.int .u32 e, .int .u32 s, .int .u32 p, .int .i64 i, .int .i64 n, .int .i64 z] 80 (0, 0)) := (hbw.block _ (by simp)).trans (heap_alloc_new w _)
  have hlt : w.heap.size < w1.heap.size := lt_heap hbx
  have q0 : w1.cell? ⟨w.heap.size, 0, none⟩ = some (.int .u32 e) := cell_of_row w1 _ 0 _ _ _ hbx
  have q1 : w1.cell? ⟨w.heap.size, 1, none⟩ = some (.int .u32 s) := cell_of_row w1 _ 1 _ _ _ hbx
  have q2 : w1.cell? ⟨w.heap.size, 2, none⟩ = some (.int .u32 p) := cell_of_row w1 _ 2 _ _ _ hbx
  have q3 : w1.cell? ⟨w.heap.size, 3, none⟩ = some (.int .i64 i) := cell_of_row w1 _ 3 _ _ _ hbx
  have q4 : w1.cell? ⟨w.heap.size, 4, none⟩ = some (.int .i64 n) := cell_of_row w1 _ 4 _ _ _ hbx
  have q5 : w1.cell? ⟨w.heap.size, 5, none⟩ = some (.int .i64 z) := cell_of_row w1 _ 5 _ _ _ hbx
  have f5 : w1.frozen? ⟨w.heap.size, 5, none⟩ = false := by simp [World.frozen?, hbx]
  have HW1 : Hid (Below w.heap.size w w1) := (below_alloc w _).trans (hbw.mono (by simp))
  have HZ : Hid (Below w.heap.size w ((w1.setCell ⟨w.heap.size, 5, none⟩ (.int .i64 k)).alloc (.cells #[.int .u32 e, .int .u32 s, .int .u32 a2, .int .i64 a3, .int .i64 a4, .int .i64 k] 80))) := (HW1.out.setCell (Nat.le_refl _) _).alloc (by simp [World.setCell]; omega) _
  clear hbx hbw hb1
  go_wp2
  go_ret2
  exact ⟨rfl, HZ.out⟩
set_option maxRecDepth 8000 in
set_option maxHeartbeats 2000000 in
theorem part_ne3 (e s p i n z a3 a4 k : Nat) (b o c : Nat) (xs : List Nat) (w : World) (hx : xs.length = 128) (hc : 128 ≤ c) (hcm : c ≤ maxLen) (hb : BIn w (some ⟨b, o, none⟩) xs) (hm : markOfN xs = .agg #[.int .u32 e, .int .u32 s, .int .u32 p, .int .i64 a3, .int .i64 a4, .int .i64 k]) (hne : a3 ≠ i) :
    Calls Try.prog 40 #[.slice (some ⟨b, o, none⟩) 128 c, markV e s p i n z] w fun x w' => x = .returned (.tuple #[.slice none 0 0, .bool false]) ∧ Below w.heap.size w w' := by
  have g : ((a3 : Int) == (i : Int)) = false := by simp; omega
  clear hne
  have HX : Hid (xs.length = 128) := hx
  have HB : Hid (BIn w (some ⟨b, o, none⟩) xs) := hb
  have HCM : Hid (c ≤ maxLen) := hcm
  have h16c : (16 : Int) < c := by omega
  have hcI : (128 : Int) ≤ c := by omega
  have HC : Hid (128 ≤ c) := hc
  have HM : Hid (markOfN xs = .agg #[.int .u32 e, .int .u32 s, .int .u32 p, .int .i64 a3, .int .i64 a4, .int .i64 k]) := hm
  clear hx hb hc hcm hm
  unfold markV
  go_enter Try.func40, Try.ntmps40
  go_wp2_with fail
  refine (markOf_any (some ⟨b, o, none⟩) xs 128 c _ HX.out.symm (by have := HX.out; omega) HC.out (HB.out.alloc _)).mono ?_
  rintro x w1 ⟨ex, hb1⟩
  rw [HM.out] at ex
  subst ex
  have hbw : Below (w.alloc (.cells #[.int .u32 e, .int .u32 s, .int .u32 p, .int .i64 i, .int .i64 n, .int .i64 z] 80)).heap.size (w.alloc (.cells #[.int .u32 e, .int .u32 s, .int .u32 p, .int .i64 i, .int .i64 n, .int .i64 z] 80)) w1 := hb1
  have hbx : w1.heap[w.heap.size]? = some (.cells #[.int .u32 e, .int .u32 s, .int .u32 p, .int .i64 i, .int .i64 n, .int .i64 z] 80 (0, 0)) := (hbw.block _ (by simp)).trans (heap_alloc_new w _)
  have hlt : w.heap.size < w1.heap.size := lt_heap hbx
  have q0 : w1.cell? ⟨w.heap.size, 0, none⟩ = some (.int .u32 e) := cell_of_row w1 _ 0 _ _ _ hbx
  have q1 : w1.cell? ⟨w.heap.size, 1, none⟩ = some (.int .u32 s) := cell_of_row w1 _ 1 _ _ _ hbx
  have q2 : w1.cell? ⟨w.heap.size, 2, none⟩ = some (.int .u32 p) := cell_of_row w1 _ 2 _ _ _ hbx
  have q3 : w1.cell? ⟨w.heap.size, 3, none⟩ = some (.int .i64 i) := cell_of_row w1 _ 3 _ _ _ hbx
  have q4 : w1.cell? ⟨w.heap.size, 4, none⟩ = some (.int .i64 n) := cell_of_row w1 _ 4 _ _ _ hbx
  have q5 : w1.cell? ⟨w.heap.size, 5, none⟩ = some (.int .i64 z) := cell_of_row w1 _ 5 _ _ _ hbx
  have f5 : w1.frozen? ⟨w.heap.size, 5, none⟩ = false := by simp [World.frozen?, hbx]
  have HW1 : Hid (Below w.heap.size w w1) := (below_alloc w _).trans (hbw.mono (by simp))
  have HZ : Hid (Below w.heap.size w ((w1.setCell ⟨w.heap.size, 5, none⟩ (.int .i64 k)).alloc (.cells #[.int .u32 e, .int .u32 s, .int .u32 p, .int .i64 a3, .int .i64 a4, .int .i64 k] 80))) := (HW1.out.setCell (Nat.le_refl _) _).alloc (by simp [World.setCell]; omega) _
  clear hbx hbw hb1
  go_wp2
  go_ret2
  exact ⟨rfl, HZ.out⟩
set_option maxRecDepth 8000 in
set_option maxHeartbeats 2000000 in
theorem part_ne4 (e s p i n z a4 k : Nat) (b o c : Nat) (xs : List Nat) (w : World) (hx : xs.length = 128) (hc : 128 ≤ c) (hcm : c ≤ maxLen) (hb : BIn w (some ⟨b, o, none⟩) xs) (hm : markOfN xs = .agg #[.int .u32 e, .int .u32 s, .int .u32 p, .int .i64 i, .int .i64 a4, .int .i64 k]) (hne : a4 ≠ n) :
    Calls Try.prog 40 #[.slice (some ⟨b, o, none⟩) 128 c, markV e s p i n z] w fun x w' => x = .returned (.tuple #[.slice none 0 0, .bool false]) ∧ Below w.heap.size w w' := by
  have g : ((a4 : Int) == (n : Int)) = false := by simp; omega
  clear hne
  have HX : Hid (xs.length = 128) := hx
  have HB : Hid (BIn w (some ⟨b, o, none⟩) xs) := hb
  have HCM : Hid (c ≤ maxLen) := hcm
  have h16c : (16 : Int) < c := by omega
  have hcI : (128 : Int) ≤ c := by omega
  have HC : Hid (128 ≤ c) := hc
  have HM : Hid (markOfN xs = .agg #[.int .u32 e, .int .u32 s, .int .u32 p, .int .i64 i, .int .i64 a4, .int .i64 k]) := hm
  clear hx hb hc hcm hm
  unfold markV
  go_enter Try.func40, Try.ntmps40
  go_wp2_with fail
  refine (markOf_any (some ⟨b, o, none⟩) xs 128 c _ HX.out.symm (by have := HX.out; omega) HC.out (HB.out.alloc _)).mono ?_
  rintro x w1 ⟨ex, hb1⟩
  rw [HM.out] at ex
  subst ex
  have hbw : Below (w.alloc (.cells #[.int .u32 e, .int .u32 s, .int .u32 p, .int .i64 i, .int .i64 n, .int .i64 z] 80)).heap.size (w.alloc (.cells #[.int .u32 e, .int .u32 s, .int .u32 p, .int .i64 i, .int .i64 n, .int .i64 z] 80)) w1 := hb1
  have hbx : w1.heap[w.heap.size]? = some (.cells #[.int .u32 e, .int .u32 s, .int .u32 p, .int .i64 i, .int .i64 n, .int .i64 z] 80 (0, 0)) := (hbw.block _ (by simp)).trans (heap_alloc_new w _)
  have hlt : w.heap.size < w1.heap.size := lt_heap hbx
  have q0 : w1.cell? ⟨w.heap.size, 0, none⟩ = some (.int .u32 e) := cell_of_row w1 _ 0 _ _ _ hbx
  have q1 : w1.cell? ⟨w.heap.size, 1, none⟩ = some (.int .u32 s) := cell_of_row w1 _ 1 _ _ _ hbx
  have q2 : w1.cell? ⟨w.heap.size, 2, none⟩ = some (.int .u32 p) := cell_of_row w1 _ 2 _ _ _ hbx
  have q3 : w1.cell? ⟨w.heap.size, 3, none⟩ = some (.int .i64 i) := cell_of_row w1 _ 3 _ _ _ hbx
  have q4 : w1.cell? ⟨w.heap.size, 4, none⟩ = some (.int .i64 n) := cell_of_row w1 _ 4 _ _ _ hbx
  have q5 : w1.cell? ⟨w.heap.size, 5, none⟩ = some (.int .i64 z) := cell_of_row w1 _ 5 _ _ _ hbx
  have f5 : w1.frozen? ⟨w.heap.size, 5, none⟩ = false := by simp [World.frozen?, hbx]
  have HW1 : Hid (Below w.heap.size w w1) := (below_alloc w _).trans (hbw.mono (by simp))
  have HZ : Hid (Below w.heap.size w ((w1.setCell ⟨w.heap.size, 5, none⟩ (.int .i64 k)).alloc (.cells #[.int .u32 e, .int .u32 s, .int .u32 p, .int .i64 i, .int .i64 a4, .int .i64 k] 80))) := (HW1.out.setCell (Nat.le_refl _) _).alloc (by simp [World.setCell]; omega) _
  clear hbx hbw hb1
  go_wp2
  go_ret2
  exact ⟨rfl, HZ.out⟩
end Go.Proofs.Ytkjooekicbghdab
namespace Go.Proofs.Ytkjooekicbghdab
open Go.RowKit Go.WideShapes

set_option maxRecDepth 8000 in
set_option maxHeartbeats 2000000 in
theorem part_few0 (e s p i n z k : Nat) (b o c : Nat) (xs : List Nat) (w : World) (hx : xs.length = 128) (hc : 128 ≤ c) (hcm : c ≤ maxLen) (hb : BIn w (some ⟨b, o, none⟩) xs) (hm : markOfN xs = .agg #[.int .u32 e, .int .u32 s, .int .u32 p, .int .i64 i, .int .i64 n, .int .i64 k]) (hi : i < 256) (hn : n < 256) (h1 : i + 1 < n) (hk : k < 112) :
    Calls Try.prog 40 #[.slice (some ⟨b, o, none⟩) 128 c, markV e s p i n z] w fun x w' => x = .returned (.tuple #[.slice none 0 0, .bool false]) ∧ Below w.heap.size w w' := by
  have g : decide ((k : Int) < 112) = true := decide_eq_true (by omega)
  have gk : (k : Int) < 112 := by omega
  clear hk
  have HI : Hid (i < 256 ∧ n < 256) := ⟨hi, hn⟩
  have HP : Hid (placeN i n = 0) := by show _ = _; unfold placeN; rw [if_pos h1]
  clear hi hn h1
  have HX : Hid (xs.length = 128) := hx
  have HB : Hid (BIn w (some ⟨b, o, none⟩) xs) := hb
  have HCM : Hid (c ≤ maxLen) := hcm
  have h16c : (16 : Int) < c := by omega
  have hcI : (128 : Int) ≤ c := by omega
  have HC : Hid (128 ≤ c) := hc
  have HM : Hid (markOfN xs = .agg #[.int .u32 e, .int .u32 s, .int .u32 p, .int .i64 i, .int .i64 n, .int .i64 k]) := hm
  clear hx hb hc hcm hm
  unfold markV
  go_enter Try.func40, Try.ntmps40
  go_wp2_with fail
  refine (markOf_any (some ⟨b, o, none⟩) xs 128 c _ HX.out.symm (by have := HX.out; omega) HC.out (HB.out.alloc _)).mono ?_
  rintro x w1 ⟨ex, hb1⟩
  rw [HM.out] at ex
  subst ex
  have hbw : Below (w.alloc (.cells #[.int .u32 e, .int .u32 s, .int .u32 p, .int .i64 i, .int .i64 n, .int .i64 z] 80)).heap.size (w.alloc (.cells #[.int .u32 e, .int .u32 s, .int .u32 p, .int .i64 i, .int .i64 n, .int .i64 z] 80)) w1 := hb1
  have hbx : w1.heap[w.heap.size]? = some (.cells #[.int .u32 e, .int .u32 s, .int .u32 p, .int .i64 i, .int .i64 n, .int .i64 z] 80 (0, 0)) := (hbw.block _ (by simp)).trans (heap_alloc_new w _)
  have hlt : w.heap.size < w1.heap.size := lt_heap hbx
  have q0 : w1.cell? ⟨w.heap.size, 0, none⟩ = some (.int .u32 e) := cell_of_row w1 _ 0 _ _ _ hbx
  have q1 : w1.cell? ⟨w.heap.size, 1, none⟩ = some (.int .u32 s) := cell_of_row w1 _ 1 _ _ _ hbx
  have q2 : w1.cell? ⟨w.heap.size, 2, none⟩ = some (.int .u32 p) := cell_of_row w1 _ 2 _ _ _ hbx
  have q3 : w1.cell? ⟨w.heap.size, 3, none⟩ = some (.int .i64 i) := cell_of_row w1 _ 3 _ _ _ hbx
  have q4 : w1.cell? ⟨w.heap.size, 4, none⟩ = some (.int .i64 n) := cell_of_row w1 _ 4 _ _ _ hbx
  have q5 : w1.cell? ⟨w.heap.size, 5, none⟩ = some (.int .i64 z) := cell_of_row w1 _ 5 _ _ _ hbx
  have f5 : w1.frozen? ⟨w.heap.size, 5, none⟩ = false := by simp [World.frozen?, hbx]
  have HW1 : Hid (Below w.heap.size w w1) := (below_alloc w _).trans (hbw.mono (by simp))
  have HZ : Hid (Below w.heap.size w ((w1.setCell ⟨w.heap.size, 5, none⟩ (.int .i64 k)).alloc (.cells #[.int .u32 e, .int .u32 s, .int .u32 p, .int .i64 i, .int .i64 n, .int .i64 k] 80))) := (HW1.out.setCell (Nat.le_refl _) _).alloc (by simp [World.setCell]; omega) _
  clear hbx hbw hb1
  go_wp2_with fail
  refine (place_any e s p i n k 0 _ HI.out.1 HI.out.2 HP.out).mono ?_
  rintro x w2 ⟨ex, hb2⟩
  subst ex
  have hZ := HZ.out
  have hsz2 := hb2.size
  have hszZ : (w1.setCell ⟨w.heap.size, 5, none⟩ (.int .i64 k)).heap.size = w1.heap.size := by simp [World.setCell]
  have hbm : w2.heap[w1.heap.size]? = some (.cells #[.int .u32 e, .int .u32 s, .int .u32 p, .int .i64 i, .int .i64 n, .int .i64 k] 80 (0, 0)) := by
    have h3 := heap_alloc_new (w1.setCell ⟨w.heap.size, 5, none⟩ (.int .i64 k)) (.cells #[.int .u32 e, .int .u32 s, .int .u32 p, .int .i64 i, .int .i64 n, .int .i64 k] 80)
    rw [hszZ] at h3
    exact (hb2.block _ (by rw [World.size_alloc, hszZ]; omega)).trans h3
  have m5 : w2.cell? ⟨w1.heap.size, 5, none⟩ = some (.int .i64 k) := cell_of_row w2 _ 5 _ _ _ hbm
  have HZ2 : Hid (Below w.heap.size w w2) := hZ.trans (hb2.mono hZ.size)
  clear hbm hb2 hZ HZ q0 q1 q2 q3 q4 q5 f5 hszZ
  go_wp2
  go_ret2
  exact ⟨rfl, HZ2.out⟩
set_option maxRecDepth 8000 in
set_option maxHeartbeats 2000000 in
set_option linter.unusedVariables false in
theorem part_many0 (e s p i n z k : Nat) (b o c : Nat) (xs : List Nat) (w : World) (hx : xs.length = 128) (hc : 128 ≤ c) (hcm : c ≤ maxLen) (hb : BIn w (some ⟨b, o, none⟩) xs) (hm : markOfN xs = .agg #[.int .u32 e, .int .u32 s, .int .u32 p, .int .i64 i, .int .i64 n, .int .i64 k]) (hi : i < 256) (hn : n < 256) (h1 : i + 1 < n) (_hk0 : 112 ≤ k) (hk : 112 < k) :
    Calls Try.prog 40 #[.slice (some ⟨b, o, none⟩) 128 c, markV e s p i n z] w fun x w' => x = .returned (.tuple #[.slice none 0 0, .bool false]) ∧ Below w.heap.size w w' := by
  have g0 : decide ((k : Int) < 112) = false := decide_eq_false (by omega)
  have g0' : ¬ (k : Int) < 112 := by omega
  have g00 : ((k : Int) == 0) = false := by simp; omega
  clear _hk0
  have gk : (112 : Int) < k := by omega
  clear hk
  have HI : Hid (i < 256 ∧ n < 256) := ⟨hi, hn⟩
  have HP : Hid (placeN i n = 0) := by show _ = _; unfold placeN; rw [if_pos h1]
  clear hi hn h1
  have HX : Hid (xs.length = 128) := hx
  have HB : Hid (BIn w (some ⟨b, o, none⟩) xs) := hb
  have HCM : Hid (c ≤ maxLen) := hcm
  have h16c : (16 : Int) < c := by omega
  have hcI : (128 : Int) ≤ c := by omega
  have HC : Hid (128 ≤ c) := hc
  have HM : Hid (markOfN xs = .agg #[.int .u32 e, .int .u32 s, .int .u32 p, .int .i64 i, .int .i64 n, .int .i64 k]) := hm
  clear hx hb hc hcm hm
  unfold markV
  go_enter Try.func40, Try.ntmps40
  go_wp2_with fail
  refine (markOf_any (some ⟨b, o, none⟩) xs 128 c _ HX.out.symm (by have := HX.out; omega) HC.out (HB.out.alloc _)).mono ?_
  rintro x w1 ⟨ex, hb1⟩
  rw [HM.out] at ex
  subst ex
  have hbw : Below (w.alloc (.cells #[.int .u32 e, .int .u32 s, .int .u32 p, .int .i64 i, .int .i64 n, .int .i64 z] 80)).heap.size (w.alloc (.cells #[.int .u32 e, .int .u32 s, .int .u32 p, .int .i64 i, .int .i64 n, .int .i64 z] 80)) w1 := hb1
  have hbx : w1.heap[w.heap.size]? = some (.cells #[.int .u32 e, .int .u32 s, .int .u32 p, .int .i64 i, .int .i64 n, .int .i64 z] 80 (0, 0)) := (hbw.block _ (by simp)).trans (heap_alloc_new w _)
  have hlt : w.heap.size < w1.heap.size := lt_heap hbx
  have q0 : w1.cell? ⟨w.heap.size, 0, none⟩ = some (.int .u32 e) := cell_of_row w1 _ 0 _ _ _ hbx
  have q1 : w1.cell? ⟨w.heap.size, 1, none⟩ = some (.int .u32 s) := cell_of_row w1 _ 1 _ _ _ hbx
  have q2 : w1.cell? ⟨w.heap.size, 2, none⟩ = some (.int .u32 p) := cell_of_row w1 _ 2 _ _ _ hbx
  have q3 : w1.cell? ⟨w.heap.size, 3, none⟩ = some (.int .i64 i) := cell_of_row w1 _ 3 _ _ _ hbx
  have q4 : w1.cell? ⟨w.heap.size, 4, none⟩ = some (.int .i64 n) := cell_of_row w1 _ 4 _ _ _ hbx
  have q5 : w1.cell? ⟨w.heap.size, 5, none⟩ = some (.int .i64 z) := cell_of_row w1 _ 5 _ _ _ hbx
  have f5 : w1.frozen? ⟨w.heap.size, 5, none⟩ = false := by simp [World.frozen?, hbx]
  have HW1 : Hid (Below w.heap.size w w1) := (below_alloc w _).trans (hbw.mono (by simp))
  have HZ : Hid (Below w.heap.size w ((w1.setCell ⟨w.heap.size, 5, none⟩ (.int .i64 k)).alloc (.cells #[.int .u32 e, .int .u32 s, .int .u32 p, .int .i64 i, .int .i64 n, .int .i64 k] 80))) := (HW1.out.setCell (Nat.le_refl _) _).alloc (by simp [World.setCell]; omega) _
  clear hbx hbw hb1
  go_wp2_with fail
  refine (place_any e s p i n k 0 _ HI.out.1 HI.out.2 HP.out).mono ?_
  rintro x w2 ⟨ex, hb2⟩
  subst ex
  have hZ := HZ.out
  have hsz2 := hb2.size
  have hszZ : (w1.setCell ⟨w.heap.size, 5, none⟩ (.int .i64 k)).heap.size = w1.heap.size := by simp [World.setCell]
  have hbm : w2.heap[w1.heap.size]? = some (.cells #[.int .u32 e, .int .u32 s, .int .u32 p, .int .i64 i, .int .i64 n, .int .i64 k] 80 (0, 0)) := by
    have h3 := heap_alloc_new (w1.setCell ⟨w.heap.size, 5, none⟩ (.int .i64 k)) (.cells #[.int .u32 e, .int .u32 s, .int .u32 p, .int .i64 i, .int .i64 n, .int .i64 k] 80)
    rw [hszZ] at h3
    exact (hb2.block _ (by rw [World.size_alloc, hszZ]; omega)).trans h3
  have m5 : w2.cell? ⟨w1.heap.size, 5, none⟩ = some (.int .i64 k) := cell_of_row w2 _ 5 _ _ _ hbm
  have HZ2 : Hid (Below w.heap.size w w2) := hZ.trans (hb2.mono hZ.size)
  clear hbm hb2 hZ HZ q0 q1 q2 q3 q4 q5 f5 hszZ
  go_wp2
  go_ret2
  exact ⟨rfl, HZ2.out⟩
set_option maxRecDepth 8000 in
set_option maxHeartbeats 2000000 in
theorem part_z0t1 (e s p i n z : Nat) (b o : Nat) (xs : List Nat) (w : World) (hx : xs.length = 128) (hb : BIn w (some ⟨b, o, none⟩) xs) (hm : markOfN xs = .agg #[.int .u32 e, .int .u32 s, .int .u32 p, .int .i64 i, .int .i64 n, .int .i64 112]) (hi : i < 256) (hn : n < 256) (h1 : i + 1 < n) :
    Calls Try.prog 40 #[.slice (some ⟨b, o, none⟩) 128 128, markV e s p i n z] w fun x w' => x = .returned (.tuple #[.slice (some ⟨b, o + 16, none⟩) (16 + 112 - 16) (128 - 16), .bool true]) ∧ Below w.heap.size w w' := by
  have HI : Hid (i < 256 ∧ n < 256) := ⟨hi, hn⟩
  have HP : Hid (placeN i n = 0) := by show _ = _; unfold placeN; rw [if_pos h1]
  clear hi hn h1
  have HX : Hid (xs.length = 128) := hx
  have HB : Hid (BIn w (some ⟨b, o, none⟩) xs) := hb
  have HM : Hid (markOfN xs = .agg #[.int .u32 e, .int .u32 s, .int .u32 p, .int .i64 i, .int .i64 n, .int .i64 112]) := hm
  clear hx hb hm
  unfold markV
  go_enter Try.func40, Try.ntmps40
  go_wp2_with fail
  refine (markOf_any (some ⟨b, o, none⟩) xs 128 128 _ HX.out.symm (by have := HX.out; omega) (Nat.le_refl _) (HB.out.alloc _)).mono ?_
  rintro x w1 ⟨ex, hb1⟩
  rw [HM.out] at ex
  subst ex
  have hbw : Below (w.alloc (.cells #[.int .u32 e, .int .u32 s, .int .u32 p, .int .i64 i, .int .i64 n, .int .i64 z] 80)).heap.size (w.alloc (.cells #[.int .u32 e, .int .u32 s, .int .u32 p, .int .i64 i, .int .i64 n, .int .i64 z] 80)) w1 := hb1
  have hbx : w1.heap[w.heap.size]? = some (.cells #[.int .u32 e, .int .u32 s, .int .u32 p, .int .i64 i, .int .i64 n, .int .i64 z] 80 (0, 0)) := (hbw.block _ (by simp)).trans (heap_alloc_new w _)
  have hlt : w.heap.size < w1.heap.size := lt_heap hbx
  have q0 : w1.cell? ⟨w.heap.size, 0, none⟩ = some (.int .u32 e) := cell_of_row w1 _ 0 _ _ _ hbx
  have q1 : w1.cell? ⟨w.heap.size, 1, none⟩ = some (.int .u32 s) := cell_of_row w1 _ 1 _ _ _ hbx
  have q2 : w1.cell? ⟨w.heap.size, 2, none⟩ = some (.int .u32 p) := cell_of_row w1 _ 2 _ _ _ hbx
  have q3 : w1.cell? ⟨w.heap.size, 3, none⟩ = some (.int .i64 i) := cell_of_row w1 _ 3 _ _ _ hbx
  have q4 : w1.cell? ⟨w.heap.size, 4, none⟩ = some (.int .i64 n) := cell_of_row w1 _ 4 _ _ _ hbx
  have q5 : w1.cell? ⟨w.heap.size, 5, none⟩ = some (.int .i64 z) := cell_of_row w1 _ 5 _ _ _ hbx
  have f5 : w1.frozen? ⟨w.heap.size, 5, none⟩ = false := by simp [World.frozen?, hbx]
  have HW1 : Hid (Below w.heap.size w w1) := (below_alloc w _).trans (hbw.mono (by simp))
  have HZ : Hid (Below w.heap.size w ((w1.setCell ⟨w.heap.size, 5, none⟩ (.int .i64 112)).alloc (.cells #[.int .u32 e, .int .u32 s, .int .u32 p, .int .i64 i, .int .i64 n, .int .i64 112] 80))) := (HW1.out.setCell (Nat.le_refl _) _).alloc (by simp [World.setCell]; omega) _
  clear hbx hbw hb1
  go_wp2_with fail
  refine (place_any e s p i n 112 0 _ HI.out.1 HI.out.2 HP.out).mono ?_
  rintro x w2 ⟨ex, hb2⟩
  subst ex
  have hZ := HZ.out
  have hsz2 := hb2.size
  have hszZ : (w1.setCell ⟨w.heap.size, 5, none⟩ (.int .i64 112)).heap.size = w1.heap.size := by simp [World.setCell]
  have hbm : w2.heap[w1.heap.size]? = some (.cells #[.int .u32 e, .int .u32 s, .int .u32 p, .int .i64 i, .int .i64 n, .int .i64 112] 80 (0, 0)) := by
    have h3 := heap_alloc_new (w1.setCell ⟨w.heap.size, 5, none⟩ (.int .i64 112)) (.cells #[.int .u32 e, .int .u32 s, .int .u32 p, .int .i64 i, .int .i64 n, .int .i64 112] 80)
    rw [hszZ] at h3
    exact (hb2.block _ (by rw [World.size_alloc, hszZ]; omega)).trans h3
  have m5 : w2.cell? ⟨w1.heap.size, 5, none⟩ = some (.int .i64 112) := cell_of_row w2 _ 5 _ _ _ hbm
  have HZ2 : Hid (Below w.heap.size w w2) := hZ.trans (hb2.mono hZ.size)
  clear hbm hb2 hZ HZ q0 q1 q2 q3 q4 q5 f5 hszZ
  go_wp2_with fail
  refine (noughts_any _ [] _ _ true _ (by simp) (by simp) (by simp [maxLen]) (drop_in0 rfl) (by simp)).mono ?_
  rintro x w3 ⟨ex, ew⟩
  subst ex
  subst ew
  go_wp2
  go_ret2
  exact ⟨rfl, HZ2.out⟩
end Go.Proofs.Ytkjooekicbghdab
