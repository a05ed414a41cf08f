/-
  The document's Cut.
-/
import Derived.Test.YthebnealkekdmaaJ03
import Derived.Test.YthebnealkekdmaaJ07
namespace Go.Proofs.Ythebnealkekdmaa
open Go.RowKit Go.WideShapes


/-- The lowest k bytes of a number. -/
def putK : Nat → Nat → List Nat
  | 0, _ => []
  | k + 1, m => (m % 256) :: putK k (m / 256)
theorem putK_8 (n : Nat) (h : n < 18446744073709551616) : putK 8 n = putN n := by
  simp only [putK, putN, Nat.div_div_eq_div_mul, Nat.reduceMul]
  have : n / 72057594037927936 % 256 = n / 72057594037927936 := by omega
  rw [this]
theorem putK_step (k m : Nat) (h : k < 8) : putK (8 - k) m = (m % 256) :: putK (8 - (k + 1)) (m / 256) := by
  rw [show 8 - k = (8 - (k + 1)) + 1 from by omega]; rfl

set_option maxHeartbeats 400000 in
set_option maxRecDepth 100000 in
theorem refPut_any (n : Nat) (w : World) (hn : n < 18446744073709551616) :
    Calls Try.prog 47 #[.int .u64 n] w fun e w' => ∃ v, e = .returned v ∧ w'.ownsRow w.heap.size 5 1 v 8 (Bs (putN n)) ∧ Below w.heap.size w w' := by
  obtain ⟨i0, hi, hz0, hz1, hz2⟩ := info_parts info5
  have HP : Hid (putK 8 n = putN n) := putK_8 n hn
  go_enter Try.func47, Try.ntmps47
  go_wp2
  go_loopw [0, 3, 4] (fun t v i wr => ∃ k m : Nat, ∃ xs : List Nat, k ≤ 8 ∧ m < 18446744073709551616 ∧ t = .int .u64 m ∧ i = .int .i64 k ∧ xs.length = k ∧ putN n = xs ++ putK (8 - k) m ∧ wr.ownsRow w.heap.size 5 1 v xs.length (Bs xs) ∧ Below w.heap.size w wr)
    (fun _ _ i _ => 8 - (intOf i).toNat)
  case atStart => exact ⟨0, n, [], by omega, hn, rfl, rfl, rfl, HP.out.symm, World.ownsRow_nil _ _ _ _, Below.refl _ _⟩
  case round =>
    obtain ⟨k, m, xs, hk, hm, rfl, rfl, hxk, hsm, hown, hnx⟩ := hrel
    have HS : Hid _ := hsm
    have HX : Hid (xs.length = k) := hxk
    have hxl : xs.length ≤ 8 := by omega
    clear hsm hxk
    have hsz := hnx.size
    by_cases hlt : k < 8
    · have HK : Hid _ := putK_step k m hlt
      go_wp2_with (at_builtin; refine wpList_append_own _ rfl _ _ 36 rfl w.heap.size 5 i0 (.int .u8 0) 1 1 Try.underlying36 hi hz0 hz1 hz2 rfl (by decide) _ _ _ rfl (hown.alloc _) ⟨wr.heap.size, 0, none⟩ 1 1 [.int .u8 ((m : Int) % 256)] rfl rfl (cell_one_new _ _ _) ?d2 ?d3 ?d4 ?d5 ?_)
      case d2 => intro u hu; simp at hu; subst hu; rfl
      case d3 => unfold maxLen; omega
      case d4 => omega
      case d5 => simp; omega
      intro v' w1 hown' hgrow _
      have R := rel_push (c := m % 256) (by omega) hown hnx hsz hown' hgrow
      have e : Hid (putN n = (xs ++ [m % 256]) ++ putK (8 - (k + 1)) (m / 256)) := by show _ = _; rw [HS.out, HK.out]; simp
      clear hown' hgrow hown
      go_wp2
      go_roundw
      case rel => exact ⟨k + 1, m / 256, xs ++ [m % 256], by omega, by omega, by go_num, by go_num, by simp [HX.out], e.out, R.1, R.2⟩
      case measure => simp [intOf]; omega
    · have e : putN n = xs ∧ xs.length = 8 := by
        have h8 : k = 8 := by omega
        refine ⟨?_, by rw [HX.out, h8]⟩
        rw [HS.out, h8]; simp [putK]
      rw [e.2, ← e.1] at hown
      clear e
      have HO : Hid _ := hown
      clear hown
      go_wp2
      go_ret
      exact ⟨_, rfl, HO.out, hnx⟩

set_option maxHeartbeats 400000 in
theorem refGet_bad (p : Option Addr) (n c : Nat) (w : World) (hn : n ≠ 8) :
    Calls Try.prog 48 #[.slice p n c] w fun e w' => e = .returned (.tuple #[.int .u64 0, .int .i64 8]) ∧ w' = w := by
  go_enter Try.func48, Try.ntmps48
  go_wp2
  go_ret2
  exact ⟨rfl, rfl⟩
theorem ret_two {a b : Int} {k1 k2 : IntKind} {c : Int} (h : a = b) : Ending.returned (.tuple #[.int k1 a, .int k2 c]) = .returned (.tuple #[.int k1 b, .int k2 c]) := by rw [h]
set_option maxHeartbeats 1000000 in
theorem refGet_ok (p : Option Addr) (c : Nat) (a0 a1 a2 a3 a4 a5 a6 a7 : Nat) (w : World) (hb : BIn w p [a0, a1, a2, a3, a4, a5, a6, a7]) :
    Calls Try.prog 48 #[.slice p 8 c] w fun e w' => e = .returned (.tuple #[.int .u64 (joinN a0 a1 a2 a3 a4 a5 a6 a7 : Nat), .int .i64 0]) ∧ w' = w := by
  obtain ⟨b, o, rfl, hc⟩ := hb.1 (by simp)
  have c0 : w.cell? ⟨b, o, none⟩ = some (.int .u8 a0) := hc 0 (by simp)
  have c1 : w.cell? ⟨b, o + 1, none⟩ = some (.int .u8 a1) := hc 1 (by simp)
  have c2 : w.cell? ⟨b, o + 2, none⟩ = some (.int .u8 a2) := hc 2 (by simp)
  have c3 : w.cell? ⟨b, o + 3, none⟩ = some (.int .u8 a3) := hc 3 (by simp)
  have c4 : w.cell? ⟨b, o + 4, none⟩ = some (.int .u8 a4) := hc 4 (by simp)
  have c5 : w.cell? ⟨b, o + 5, none⟩ = some (.int .u8 a5) := hc 5 (by simp)
  have c6 : w.cell? ⟨b, o + 6, none⟩ = some (.int .u8 a6) := hc 6 (by simp)
  have c7 : w.cell? ⟨b, o + 7, none⟩ = some (.int .u8 a7) := hc 7 (by simp)
  have hl := hb.2
  simp only [List.mem_cons, List.not_mem_nil, or_false, forall_eq_or_imp, forall_eq] at hl
  obtain ⟨l0, l1, l2, l3, l4, l5, l6, l7⟩ := hl
  clear hb hc
  go_enter Try.func48, Try.ntmps48
  go_wp2
  refine wp_loop_rounds 9 ?_
  iterate 9 (rw [rounds_succ]; go_wp2)
  go_ret2
  refine ⟨ret_two ?_, rfl⟩
  unfold joinN; omega
end Go.Proofs.Ythebnealkekdmaa
namespace Go.Proofs.Ythebnealkekdmaa
open Go.RowKit Go.WideShapes

theorem rmay_any (p : PartV) (r : Bool) (w : World) (hr : r = true ↔ mayP p) :
    Calls Try.prog 32 #[partV p] w fun e w' => e = .returned (.bool r) ∧ Below w.heap.size w w' := by
  obtain ⟨k, i, t⟩ := p
  have HR : Hid (r = true ↔ mayP ⟨k, i, t⟩) := hr
  clear hr
  unfold partV
  have e := empty_is t
  by_cases h1 : k = 1
  · subst h1
    have HE : Hid (t.toList.isEmpty = r) := by
      show _ = _
      rw [Bool.eq_iff_iff, HR.out, e]
      simp [mayP]
    obtain ⟨b, hb⟩ : ∃ b, t.toList.isEmpty = b := ⟨_, rfl⟩
    rw [hb] at HE
    obtain rfl := HE.out
    clear e
    cases b
    · go_enter Try.func32, Try.ntmps32
      go_wp2
      go_ret
      exact ⟨rfl, below_alloc _ _⟩
    · go_enter Try.func32, Try.ntmps32
      go_wp2
      go_ret
      exact ⟨rfl, below_alloc _ _⟩
  · have g1 : (k == 1) = false := by simpa using h1
    by_cases h2 : k = 2
    · subst h2
      have HE : Hid ((i == 0) = r) := by
        show _ = _
        rw [Bool.eq_iff_iff, HR.out]
        simp [mayP]
      clear h1
      go_enter Try.func32, Try.ntmps32
      go_wp2
      go_ret
      exact ⟨by rw [← HE.out]; rfl, below_alloc _ _⟩
    · have g2 : (k == 2) = false := by simpa using h2
      have HE : Hid (false = r) := by
        show _ = _
        rw [Bool.eq_iff_iff, HR.out]
        simp [mayP, h1, h2]
      clear h1 h2
      go_enter Try.func32, Try.ntmps32
      go_wp2
      go_ret
      exact ⟨by rw [← HE.out]; rfl, below_alloc _ _⟩
/-! ### A row of bytes of one's own that grows -/
theorem own_form {w : World} {base n : Nat} {e : TypeId} {s : Nat} {v : Value} {xs : List Value} (h : w.ownsRow base e s v n xs) : ∃ q m, v = .slice q n m ∧ n ≤ m ∧ m ≤ maxLen ∧ (q = none → m = 0) := by
  rcases h.2 with ⟨hv, hn⟩ | ⟨g, cap, cur, hv, _, _, h1, h2, _⟩
  · exact ⟨none, 0, by rw [hv, hn], by omega, by unfold maxLen; omega, fun _ => rfl⟩
  · exact ⟨_, cap, hv, h1, h2, fun h => by cases h⟩
theorem BIn.addr {w : World} {p : Option Addr} {xs : List Nat} (h : BIn w p xs) (h0 : 0 < xs.length) : ∃ b o, p = some ⟨b, o, none⟩ := by
  obtain ⟨b, o, hp, _⟩ := h.1 h0
  exact ⟨b, o, hp⟩
structure Gr (B : Nat) (w0 wr : World) (v : Value) (xs : List Nat) : Prop where
  own : wr.ownsRow B 5 1 v xs.length (Bs xs)
  bel : Below B w0 wr
  le : B ≤ w0.heap.size
theorem Gr.call {B : Nat} {w0 wr w' : World} {v : Value} {xs : List Nat} (h : Gr B w0 wr v xs) (hb : Below wr.heap.size wr w') : Gr B w0 w' v xs := ⟨own_below h.own hb, h.bel.trans (hb.mono (by have := h.bel.size; have := h.le; omega)), h.le⟩
theorem Gr.app {B : Nat} {w0 wr w' : World} {v v' : Value} {xs ys : List Nat} (h : Gr B w0 wr v xs) (ho : w'.ownsRow B 5 1 v' (xs ++ ys).length (Bs (xs ++ ys))) (hg : wr.grownBy w' v.ownBlock) : Gr B w0 w' v' (xs ++ ys) := ⟨ho, h.bel.grown hg (by have := h.bel.size; have := h.le; omega) (fun k hk => (h.own.lt k hk).1), h.le⟩
theorem Gr.size {B : Nat} {w0 wr : World} {v : Value} {xs : List Nat} (h : Gr B w0 wr v xs) : B ≤ wr.heap.size := by have := h.bel.size; have := h.le; omega
theorem Gr.eq {B : Nat} {w0 wr : World} {v : Value} {xs ys : List Nat} (h : Gr B w0 wr v xs) (e : xs = ys) : Gr B w0 wr v ys := e ▸ h
theorem own_lit1 (w : World) (c B : Nat) (hB : B ≤ w.heap.size) : (w.alloc (.cells #[.int .u8 c] 5)).ownsRow B 5 1 (.slice (some ⟨w.heap.size, 0, none⟩) 1 1) 1 (Bs [c]) :=
  ⟨by simp [Bs], .inr ⟨w.heap.size, 1, #[.int .u8 c], rfl, hB, heap_alloc_new w _, Nat.le_refl _, by unfold maxLen; omega, by simp, by simp [Bs]⟩⟩
theorem gr_lit (w : World) (c : Nat) : Gr w.heap.size w (w.alloc (.cells #[.int .u8 c] 5)) (.slice (some ⟨w.heap.size, 0, none⟩) 1 1) [c] := ⟨own_lit1 w c _ (Nat.le_refl _), below_alloc _ _, Nat.le_refl _⟩
theorem gr_nil (w : World) : Gr w.heap.size w w (.slice none 0 0) [] := ⟨World.ownsRow_nil _ _ _ _, Below.refl _ _, Nat.le_refl _⟩
theorem bin_one (w : World) (c : Nat) (hc : c < 256) : BIn (w.alloc (.cells #[.int .u8 c] 5)) (some ⟨w.heap.size, 0, none⟩) [c] := bin_lit w _ _ 5 (0, 0) [c] rfl (by simp [Bs]) (by simpa using hc)
theorem add_turn {n : Int} (h : wf64 n) : ∃ a : Nat, IntKind.u64.wrap n = (a : Int) ∧ a < 18446744073709551616 ∧ IntKind.u64.wrap ((a : Int) + 9223372036854775808) = (turnN n : Int) := by
  unfold wf64 at h
  refine ⟨(n % 18446744073709551616).toNat, ?_, ?_, ?_⟩
  · rw [IntKind.wrap_u64]; omega
  · omega
  · rw [IntKind.wrap_u64]; unfold turnN; omega
theorem rev_at {x : List Nat} {k : Nat} (hx : x.length = 8) (hk : k < 8) : x.reverse.take (k + 1) = x.reverse.take k ++ [x.getD (7 - k) 0] := by
  rw [List.take_add_one, List.getElem?_eq_getElem (by rw [List.length_reverse]; omega)]
  congr 1
  simp only [Option.toList_some, List.cons.injEq, and_true]
  rw [List.getElem_reverse, List.getD_eq_getElem?_getD, List.getElem?_eq_getElem (by omega)]
  simp [hx]
def PartPost (w : World) (p : PartV) (e : Ending) (w' : World) : Prop := ∃ v, e = .returned v ∧ w'.ownsRow w.heap.size 5 1 v (bytesP p).length (Bs (bytesP p)) ∧ Below w.heap.size w w'
theorem Gr.post {w w0 wr : World} {B : Nat} {v : Value} {p : PartV} (h : Gr B w0 wr v (bytesP p)) (hw : Below w.heap.size w w0) (hB : w.heap.size ≤ B) : PartPost w p (.returned v) wr := by
  refine ⟨v, rfl, ⟨h.own.1, ?_⟩, hw.trans (h.bel.mono hB)⟩
  rcases h.own.2 with h' | ⟨g, cap, cur, h1, h2, h3⟩
  · exact .inl h'
  · exact .inr ⟨g, cap, cur, h1, Nat.le_trans hB h2, h3⟩
set_option maxRecDepth 8000 in
set_option maxHeartbeats 4000000 in
theorem rbytes_num (p : PartV) (w : World) (hk : p.kind = 1) (hi : wf64 p.int) : Calls Try.prog 33 #[partV p] w fun e w' => PartPost w p e w' := by
  have HK : Hid (bytesP p = 1 :: numB p.int) := bytesP_num hk
  obtain ⟨k, n, t⟩ := p
  simp only at hk hi
  subst hk
  obtain ⟨a, ha, ha64, hta⟩ := add_turn hi
  have HT : Hid (turnN n < 18446744073709551616) := turnN_lt hi
  unfold partV
  clear hi ha64
  go_enter Try.func33, Try.ntmps33
  go_wp2_with fail
  refine (refPut_any (turnN n) _ HT.out).mono ?_
  rintro e w1 ⟨v, rfl, ho, hb⟩
  obtain ⟨q, m, rfl, h8, _, _⟩ := own_form ho
  have HIN : Hid (BIn w1 q (putN (turnN n))) := own_at ho (by rw [putN_len]) (putN_bytes _ HT.out)
  have HB1 : Hid (Below w.heap.size w w1) := below_bt (below_alloc _ _) hb
  obtain ⟨bp, op, hq⟩ := HIN.out.addr (by rw [putN_len]; omega)
  subst hq
  have HG : Hid (Gr w1.heap.size w1 (w1.alloc (.cells #[.int .u8 1] 5)) (.slice (some ⟨w1.heap.size, 0, none⟩) 1 1) (1 :: (putN (turnN n)).reverse.take 0)) := (gr_lit w1 1).eq (by simp)
  clear ho hb h8
  go_wp2
  go_loopw [4, 5] (fun v i wr => ∃ k : Nat, k ≤ 8 ∧ i = .int .i64 (7 - (k : Int)) ∧ Gr w1.heap.size w1 wr v (1 :: (putN (turnN n)).reverse.take k)) (fun _ i _ => (intOf i + 1).toNat)
  case atStart => exact ⟨0, by omega, rfl, HG.out⟩
  case round =>
    clear HG
    obtain ⟨k, hk, rfl, hgr⟩ := hrel
    have HGR : Hid (Gr w1.heap.size w1 wr _ (1 :: (putN (turnN n)).reverse.take k)) := hgr
    clear hgr
    by_cases hk8 : k < 8
    · obtain ⟨j, hj⟩ : ∃ j : Nat, 7 - k = j := ⟨_, rfl⟩
      have e7 : (7 : Int) - (k : Int) = (j : Int) := by omega
      rw [e7]
      have hj8 : (j : Int) < 8 := by omega
      have k1 : IntKind.i64.wrap ((j : Int) - 1) = (j : Int) - 1 := by rw [IntKind.wrap_i64]; omega
      have cx := (HIN.out.below HGR.out.bel).cell j (by rw [putN_len]; omega)
      obtain ⟨c, hc⟩ : ∃ c, (putN (turnN n)).getD j 0 = c := ⟨_, rfl⟩
      rw [hc] at cx
      have hc256 : c < 256 := by rw [← hc]; exact getD_lt (putN_bytes _ HT.out) j
      have HNX : Hid ((1 :: (putN (turnN n)).reverse.take k) ++ [c] = 1 :: (putN (turnN n)).reverse.take (k + 1)) := by
        show _ = _
        rw [rev_at (putN_len _) hk8, hj, hc]; rfl
      have HLN : Hid ((1 :: (putN (turnN n)).reverse.take k).length ≤ 9) := by show _ ≤ _; rw [List.length_cons, List.length_take, List.length_reverse, putN_len]; omega
      have HA : Hid (Gr w1.heap.size w1 (wr.alloc (.cells #[.int .u8 c] 5)) _ (1 :: (putN (turnN n)).reverse.take k)) := HGR.out.call (below_alloc _ _)
      have HBO : Hid (BIn (wr.alloc (.cells #[.int .u8 c] 5)) (some ⟨wr.heap.size, 0, none⟩) [c]) := bin_one wr c hc256
      have hza := HA.out.size
      have HKK : Hid (k < 8 ∧ 7 - k = j) := ⟨hk8, hj⟩
      clear hc hk8 hj
      go_wp2_with (at_builtin; go_loud (refine wpList_append_bytes _ rfl _ _ rfl w1.heap.size _ _ [c] (some ⟨wr.heap.size, 0, none⟩) _ 1 rfl rfl rfl HA.out.own HBO.out (fun h => by cases h) (by have := HLN.out; simp only [List.length_cons, List.length_nil] at this ⊢; omega) hza ?_); intro va ua hoa hga; have ta := (HA.out.app hoa hga).eq HNX.out; have HTA : Hid _ := ta; clear ta hoa hga)
      go_roundw
      case rel => exact ⟨k + 1, by have := HKK.out; omega, by have := HKK.out; show Value.int .i64 _ = _; congr 1; omega, HTA.out⟩
      case measure => have := HKK.out; simp [intOf]
    · obtain rfl : k = 8 := by omega
      have HF : Hid (Gr w1.heap.size w1 wr _ (bytesP ⟨1, n, t⟩)) := HGR.out.eq (by rw [HK.out]; show 1 :: (putN (turnN n)).reverse.take 8 = 1 :: (putN (turnN n)).reverse; rw [List.take_of_length_le (by rw [List.length_reverse, putN_len]; omega)])
      clear hk8
      go_wp2
      go_ret
      exact HF.out.post HB1.out HB1.out.size
set_option maxRecDepth 8000 in
set_option maxHeartbeats 4000000 in
theorem rbytes_word (p : PartV) (w : World) (hk : p.kind ≠ 1) (hs : (p.text.size : Int) ≤ 100000) : Calls Try.prog 33 #[partV p] w fun e w' => PartPost w p e w' := by
  have HK : Hid (bytesP p = 2 :: (esc (numsOf p.text) ++ [0, 1])) := bytesP_word hk
  obtain ⟨k0, n, s⟩ := p
  simp only at hk hs
  have g1 : (k0 == 1) = false := by simpa using hk
  unfold partV
  have HB1 : Hid (Below w.heap.size w (w.alloc (.cells #[.int .u8 k0, .int .i64 n, .string s] 26))) := below_alloc _ _
  have hbx := heap_alloc_new w (.cells #[.int .u8 k0, .int .i64 n, .string s] 26)
  have HBX : Hid ((w.alloc (.cells #[.int .u8 k0, .int .i64 n, .string s] 26)).heap[w.heap.size]? = some (.cells #[.int .u8 k0, .int .i64 n, .string s] 26 (0, 0))) := hbx
  have hg0 := (gr_lit (w.alloc (.cells #[.int .u8 k0, .int .i64 n, .string s] 26)) 2).eq (show [2] = 2 :: esc ((numsOf s).take 0) by simp [esc])
  rw [show (w.alloc (.cells #[.int .u8 k0, .int .i64 n, .string s] 26)).heap.size = w.heap.size + 1 by simp] at hg0
  have HG0 : Hid (Gr (w.heap.size + 1) (w.alloc (.cells #[.int .u8 k0, .int .i64 n, .string s] 26)) ((w.alloc (.cells #[.int .u8 k0, .int .i64 n, .string s] 26)).alloc (.cells #[.int .u8 2] 5)) (.slice (some ⟨w.heap.size + 1, 0, none⟩) 1 1) (2 :: esc ((numsOf s).take 0))) := hg0
  have HSZ : Hid (s.size ≤ 100000) := by show _ ≤ _; omega
  clear hk hbx hg0
  go_enter Try.func33, Try.ntmps33
  go_wp2
  go_loopw [6, 7] (fun v i wr => ∃ k : Nat, k ≤ s.size ∧ i = .int .i64 k ∧ Gr (w.heap.size + 1) (w.alloc (.cells #[.int .u8 k0, .int .i64 n, .string s] 26)) wr v (2 :: esc ((numsOf s).take k))) (fun _ i _ => s.size - (intOf i).toNat)
  case atStart => exact ⟨0, by omega, rfl, HG0.out⟩
  case round =>
    clear HG0
    obtain ⟨k, hk, rfl, hgr⟩ := hrel
    have HGR : Hid (Gr (w.heap.size + 1) (w.alloc (.cells #[.int .u8 k0, .int .i64 n, .string s] 26)) wr _ (2 :: esc ((numsOf s).take k))) := hgr
    have hbw : wr.heap[w.heap.size]? = some (.cells #[.int .u8 k0, .int .i64 n, .string s] 26 (0, 0)) := (hgr.bel.block _ (by omega)).trans HBX.out
    have c2 : wr.cell? ⟨w.heap.size, 2, none⟩ = some (.string s) := Lib.cell_of_heap hbw 2
    have HLN : Hid ((2 :: esc ((numsOf s).take k)).length ≤ 300000) := by
      have h1 := esc_le ((numsOf s).take k)
      rw [List.length_take, numsOf_len] at h1
      have := HSZ.out
      show _ ≤ _
      rw [List.length_cons]
      omega
    clear hgr hbw
    by_cases hkn : k < s.size
    · have hkI : (k : Int) < (s.size : Int) := by omega
      obtain ⟨c, hc⟩ : ∃ c, (s[k]'hkn).toNat = c := ⟨_, rfl⟩
      have HC : Hid ((numsOf s).getD k 0 = c ∧ k < s.size) := ⟨(nums_at hkn).trans hc, hkn⟩
      have hc256 : c < 256 := by rw [← hc]; exact UInt8.toNat_lt _
      have HA : Hid (Gr (w.heap.size + 1) (w.alloc (.cells #[.int .u8 k0, .int .i64 n, .string s] 26)) (wr.alloc (.cells #[.int .u8 c] 5)) _ (2 :: esc ((numsOf s).take k))) := HGR.out.call (below_alloc _ _)
      have HBO : Hid (BIn (wr.alloc (.cells #[.int .u8 c] 5)) (some ⟨wr.heap.size, 0, none⟩) [c]) := bin_one wr c hc256
      have hza := HA.out.size
      by_cases h0 : c = 0
      · have g2 : ((c : Int) == 0) = true := by simp [h0]
        have HZ : Hid (c = 0) := h0
        clear h0
        go_wp2_with (first
          | (at_builtin; refine wpList_append_bytes _ rfl _ _ rfl (w.heap.size + 1) _ _ [c] (some ⟨wr.heap.size, 0, none⟩) _ 1 rfl rfl rfl HA.out.own HBO.out (fun h => by cases h) (by have := HLN.out; simp only [List.length_cons, List.length_nil] at this ⊢; omega) hza ?_; intro va ua hoa hga; have ta := HA.out.app hoa hga; have HTA : Hid _ := ta; have hbu : ua.heap[w.heap.size]? = some (.cells #[.int .u8 k0, .int .i64 n, .string s] 26 (0, 0)) := (ta.bel.block _ (by omega)).trans HBX.out; have c2u : ua.cell? ⟨w.heap.size, 2, none⟩ = some (.string s) := Lib.cell_of_heap hbu 2; have HA2 : Hid (Gr (w.heap.size + 1) (w.alloc (.cells #[.int .u8 k0, .int .i64 n, .string s] 26)) (ua.alloc (.cells #[.int .u8 255] 5)) va (2 :: esc ((numsOf s).take k) ++ [c])) := ta.call (below_alloc _ _); have HBO2 : Hid (BIn (ua.alloc (.cells #[.int .u8 255] 5)) (some ⟨ua.heap.size, 0, none⟩) [255]) := bin_one ua 255 (by omega); have hza2 := HA2.out.size; clear ta hoa hga hbu)
          | (at_builtin; refine wpList_append_bytes _ rfl _ _ rfl (w.heap.size + 1) _ _ [255] (some ⟨ua.heap.size, 0, none⟩) _ 1 rfl rfl rfl HA2.out.own HBO2.out (fun h => by cases h) (by have := HLN.out; simp only [List.length_cons, List.length_nil, List.length_append] at this ⊢; omega) hza2 ?_; intro vb ub hob hgb; have tb := HA2.out.app hob hgb; have HTB : Hid _ := tb; clear tb hob hgb))
        have HF : Hid (Gr (w.heap.size + 1) (w.alloc (.cells #[.int .u8 k0, .int .i64 n, .string s] 26)) ub vb (2 :: esc ((numsOf s).take (k + 1)))) := HTB.out.eq (by rw [take_snoc (by rw [numsOf_len]; exact HC.out.2) HC.out.1, esc_snoc, if_pos HZ.out, HZ.out]; simp)
        go_roundw
        case rel => exact ⟨k + 1, by have := HC.out; omega, by go_num, HF.out⟩
        case measure => have := HC.out; simp [intOf]; omega
      · have g2 : ((c : Int) == 0) = false := by simp; omega
        have HZ : Hid (c ≠ 0) := h0
        clear h0
        go_wp2_with (at_builtin; refine wpList_append_bytes _ rfl _ _ rfl (w.heap.size + 1) _ _ [c] (some ⟨wr.heap.size, 0, none⟩) _ 1 rfl rfl rfl HA.out.own HBO.out (fun h => by cases h) (by have := HLN.out; simp only [List.length_cons, List.length_nil] at this ⊢; omega) hza ?_; intro va ua hoa hga; have ta := HA.out.app hoa hga; have HTA : Hid _ := ta; have hbu : ua.heap[w.heap.size]? = some (.cells #[.int .u8 k0, .int .i64 n, .string s] 26 (0, 0)) := (ta.bel.block _ (by omega)).trans HBX.out; have c2u : ua.cell? ⟨w.heap.size, 2, none⟩ = some (.string s) := Lib.cell_of_heap hbu 2; clear ta hoa hga hbu)
        have HF : Hid (Gr (w.heap.size + 1) (w.alloc (.cells #[.int .u8 k0, .int .i64 n, .string s] 26)) ua va (2 :: esc ((numsOf s).take (k + 1)))) := HTA.out.eq (by rw [take_snoc (by rw [numsOf_len]; exact HC.out.2) HC.out.1, esc_snoc, if_neg HZ.out]; simp)
        go_roundw
        case rel => exact ⟨k + 1, by have := HC.out; omega, by go_num, HF.out⟩
        case measure => have := HC.out; simp [intOf]; omega
    · obtain rfl : k = s.size := by omega
      have HA : Hid (Gr (w.heap.size + 1) (w.alloc (.cells #[.int .u8 k0, .int .i64 n, .string s] 26)) (wr.alloc (.cells #[.int .u8 0, .int .u8 1] 5)) _ (2 :: esc ((numsOf s).take s.size))) := HGR.out.call (below_alloc _ _)
      have HBO : Hid (BIn (wr.alloc (.cells #[.int .u8 0, .int .u8 1] 5)) (some ⟨wr.heap.size, 0, none⟩) [0, 1]) := bin_lit wr _ _ 5 (0, 0) [0, 1] rfl (by simp [Bs]) (by simp)
      have hza := HA.out.size
      clear hkn
      go_wp2_with (at_builtin; refine wpList_append_bytes _ rfl _ _ rfl (w.heap.size + 1) _ _ [0, 1] (some ⟨wr.heap.size, 0, none⟩) _ 2 rfl rfl rfl HA.out.own HBO.out (fun h => by cases h) (by have := HLN.out; simp only [List.length_cons, List.length_nil] at this ⊢; omega) hza ?_; intro va ua hoa hga; have ta := HA.out.app hoa hga; have HTA : Hid _ := ta; clear ta hoa hga)
      have HF : Hid (Gr (w.heap.size + 1) (w.alloc (.cells #[.int .u8 k0, .int .i64 n, .string s] 26)) ua va (bytesP ⟨k0, n, s⟩)) := HTA.out.eq (by rw [HK.out, List.take_of_length_le (by rw [numsOf_len]; exact Nat.le_refl _)]; simp)
      go_ret
      exact HF.out.post HB1.out (by omega)
theorem rbytes_any (p : PartV) (w : World) (hi : wf64 p.int) (hs : (p.text.size : Int) ≤ 100000) : Calls Try.prog 33 #[partV p] w fun e w' => PartPost w p e w' := by
  by_cases hk : p.kind = 1
  · exact rbytes_num p w hk hi
  · exact rbytes_word p w hk hs
end Go.Proofs.Ythebnealkekdmaa
namespace Go.Proofs.Ythebnealkekdmaa
open Go.RowKit Go.WideShapes

theorem post_row {w w' : World} {p : PartV} {v : Value} (hi : wf64 p.int) (ho : w'.ownsRow w.heap.size 5 1 v (bytesP p).length (Bs (bytesP p))) : ∃ q m, v = .slice q (bytesP p).length m ∧ BIn w' q (bytesP p) ∧ (q = none → m = 0) := by
  obtain ⟨q, m, rfl, _, _, h⟩ := own_form ho
  exact ⟨q, m, rfl, own_at ho rfl (bytesP_byte hi), h⟩
theorem big_text {l : List PartV} {p : PartV} (h8 : ¬ 8 < l.length) (hm : ∀ p ∈ l, mayP p) (hp : p ∈ l) (ht : 256 < p.text.size) : makeR l = (ByteArray.empty, 60) := by
  refine makeR_long h8 hm ?_
  rcases hm p hp with ⟨_, h⟩ | ⟨h, _⟩
  · rw [h] at ht; exact absurd ht (by decide)
  · have := text_le hp (by omega); omega
theorem keyN_small {l : List PartV} : ∀ {j : Nat}, j ≤ l.length → (∀ x, x < j → (l.getD x zeroP).text.size ≤ 256) → (keyN (l.take j)).length ≤ j * 600
  | 0, _, _ => by simp [keyN]
  | j + 1, hj, h => by
    have hjl : j < l.length := by omega
    rw [keyN_take hjl rfl, List.length_append]
    have h1 := keyN_small (l := l) (j := j) (by omega) (fun x hx => h x (by omega))
    have h2 := bytesP_le (l.getD j zeroP)
    have h3 := h j (by omega)
    omega
set_option maxRecDepth 8000 in
set_option maxHeartbeats 4000000 in
theorem rMake_any (q : Option Addr) (n c : Nat) (l : List PartV) (w : World) (h : Parts w q n l) (hL : (n : Int) ≤ 1000) (R : ByteArray × Nat) (hR : makeR l = R) :
    Calls Try.prog 16 #[.slice q n c] w fun e w' => e = .returned (makeE R) ∧ Below w.heap.size w w' := by
  have HP : Hid (Parts w q n l) := h
  have HR : Hid (makeR l = R) := hR
  by_cases h8 : 8 < l.length
  · have g1 : decide ((8 : Int) < (n : Int)) = true := decide_eq_true (by have := h.n; omega)
    have HE : Hid (R = (ByteArray.empty, 4)) := by rw [← hR]; exact makeR_many h8
    clear h hR h8
    go_enter Try.func16, Try.ntmps16
    go_wp2
    go_ret2
    exact ⟨by rw [HE.out]; rfl, Below.refl _ _⟩
  have g1 : decide ((8 : Int) < (n : Int)) = false := decide_eq_false (by have := h.n; omega)
  have H8 : Hid (¬ 8 < l.length) := h8
  clear h hR h8
  go_enter Try.func16, Try.ntmps16
  go_wp2
  go_loopw [4] (fun i wr => ∃ k : Nat, k ≤ n ∧ i = .int .i64 k ∧ Below w.heap.size w wr ∧ Hid (∀ j, j < k → mayP (l.getD j zeroP))) (fun i _ => n - (intOf i).toNat)
  case atStart => exact ⟨0, by omega, rfl, Below.refl _ _, fun j hj => absurd hj (by omega)⟩
  case round =>
    obtain ⟨k, hk, rfl, hbel, hall⟩ := hrel
    have HBE : Hid (Below w.heap.size w wr) := hbel
    clear hbel
    by_cases hkn : k < n
    · have hkI : (k : Int) < (n : Int) := by omega
      have hlen : k < l.length := by have := HP.out.n; omega
      obtain ⟨ba, oa, rfl⟩ := HP.out.lies.addr (by omega)
      obtain ⟨x, hx⟩ : ∃ x, l.getD k zeroP = x := ⟨_, rfl⟩
      obtain ⟨x0, x1, x2⟩ := ptcells (HP.out.lies.below HBE.out) hlen hx
      have HX : Hid (l.getD k zeroP = x ∧ k < l.length ∧ k < n ∧ x ∈ l) := ⟨hx, hlen, hkn, by rw [← hx]; exact getD_mem' hlen⟩
      clear hx hkn hlen
      by_cases hm : mayP x
      · go_wp2_with fail
        refine (rmay_any x true _ (by simpa using hm)).mono ?_
        rintro e w2 ⟨rfl, hb2⟩
        have HB2 : Hid (Below w.heap.size w w2) := below_bt HBE.out hb2
        have HM : Hid (∀ j, j < k + 1 → mayP (l.getD j zeroP)) := fun j hj => by
          rcases Nat.lt_or_ge j k with h' | h'
          · exact hall.out j h'
          · obtain rfl : j = k := by omega
            rw [HX.out.1]; exact hm
        clear hb2 hm hall
        go_wp2
        go_roundw
        case rel => exact ⟨k + 1, by have := HX.out; omega, by go_num, HB2.out, HM⟩
        case measure => have := HX.out; simp [intOf]; omega
      · have HE : Hid (R = (ByteArray.empty, 8)) := by rw [← HR.out]; exact makeR_bad H8.out ⟨x, HX.out.2.2.2, hm⟩
        go_wp2_with fail
        refine (rmay_any x false _ (by simpa using hm)).mono ?_
        rintro e w2 ⟨rfl, hb2⟩
        have HB2 : Hid (Below w.heap.size w w2) := below_bt HBE.out hb2
        clear hb2 hm hall
        go_wp2
        go_ret2
        exact ⟨by rw [HE.out]; rfl, HB2.out⟩
    · obtain rfl : k = n := by omega
      have HM : Hid (∀ p ∈ l, mayP p) := by
        intro p hp
        obtain ⟨j, hj, rfl⟩ := List.getElem_of_mem hp
        have := hall.out j (by have := HP.out.n; omega)
        rw [List.getD_eq_getElem?_getD, List.getElem?_eq_getElem hj] at this
        exact this
      generalize hw1 : wr = w1 at *
      clear hw1
      have HG0 : Hid (Gr w1.heap.size w1 w1 (.slice none 0 0) (keyN (l.take 0))) := gr_nil w1
      clear hall hkn
      go_wp2
      go_loopw [5, 6] (fun v i wr => ∃ j : Nat, j ≤ k ∧ i = .int .i64 j ∧ Gr w1.heap.size w1 wr v (keyN (l.take j)) ∧ Hid (∀ x, x < j → (l.getD x zeroP).text.size ≤ 256)) (fun _ i _ => k - (intOf i).toNat)
      case atStart => exact ⟨0, by omega, rfl, HG0.out, fun j hj => absurd hj (by omega)⟩
      case round =>
        clear HG0
        obtain ⟨j, hj, rfl, hgr, hsm⟩ := hrel
        obtain ⟨qo, mo, rfl, _, _, _⟩ := own_form hgr.own
        have HGR : Hid (Gr w1.heap.size w1 wr (.slice qo (keyN (l.take j)).length mo) (keyN (l.take j))) := hgr
        have HLN : Hid ((keyN (l.take j)).length ≤ j * 600) := keyN_small (by have := HP.out.n; omega) hsm.out
        clear hgr
        by_cases hjk : j < k
        · have hjI : (j : Int) < (k : Int) := by omega
          have hlen : j < l.length := by have := HP.out.n; omega
          obtain ⟨ba, oa, rfl⟩ := HP.out.lies.addr (by omega)
          obtain ⟨x, hx⟩ : ∃ x, l.getD j zeroP = x := ⟨_, rfl⟩
          have HBR : Hid (Below w.heap.size w wr) := HBE.out.trans (HGR.out.bel.mono HBE.out.size)
          obtain ⟨x0, x1, x2⟩ := ptcells (HP.out.lies.below HBR.out) hlen hx
          have HX : Hid (l.getD j zeroP = x ∧ j < l.length ∧ j < k ∧ x ∈ l) := ⟨hx, hlen, hjk, by rw [← hx]; exact getD_mem' hlen⟩
          by_cases hbig : 256 < x.text.size
          · have g2 : decide ((256 : Int) < (x.text.size : Int)) = true := decide_eq_true (by omega)
            have HE : Hid (R = (ByteArray.empty, 60)) := by rw [← HR.out]; exact big_text H8.out HM.out HX.out.2.2.2 hbig
            clear hbig hx hlen hjk hsm
            go_wp2
            go_ret2
            exact ⟨by rw [HE.out]; rfl, HBR.out⟩
          · have g2 : decide ((256 : Int) < (x.text.size : Int)) = false := decide_eq_false (by omega)
            have HTX : Hid (x.text.size ≤ 256) := by show _ ≤ _; omega
            have HWI : Hid (wf64 x.int) := (HP.out.wf x HX.out.2.2.2).int
            have HSM : Hid (∀ y, y < j + 1 → (l.getD y zeroP).text.size ≤ 256) := fun y hy => by
              rcases Nat.lt_or_ge y j with h' | h'
              · exact hsm.out y h'
              · obtain rfl : y = j := by omega
                rw [hx]; exact HTX.out
            clear hbig hx hlen hjk hsm
            go_wp2_with fail
            refine (rbytes_any x _ HWI.out (by have := HTX.out; omega)).mono ?_
            rintro e w5 ⟨v5, rfl, ho5, hb5⟩
            obtain ⟨q5, m5, rfl, hin5, hq5⟩ := post_row HWI.out ho5
            have HG5 : Hid (Gr w1.heap.size w1 w5 (.slice qo (keyN (l.take j)).length mo) (keyN (l.take j))) := HGR.out.call hb5
            have HI5 : Hid (BIn w5 q5 (bytesP x)) := hin5
            have HQ5 : Hid (q5 = none → m5 = 0) := hq5
            have hz5 := HG5.out.size
            have HBL : Hid ((bytesP x).length ≤ 600) := by have := bytesP_le x; have := HTX.out; show _ ≤ _; omega
            clear ho5 hb5 hin5 hq5 HGR
            go_wp2_with (at_builtin; go_loud (refine wpList_append_bytes _ rfl _ _ rfl w1.heap.size _ _ (bytesP x) q5 _ m5 rfl rfl rfl HG5.out.own HI5.out HQ5.out (by have := HLN.out; have := HBL.out; have := HX.out; have := H8.out; omega) hz5 ?_); intro va ua hoa hga; have ta := (HG5.out.app hoa hga).eq (keyN_take HX.out.2.1 HX.out.1).symm; have HTA : Hid _ := ta; clear ta hoa hga)
            go_roundw
            case rel => exact ⟨j + 1, by have := HX.out; omega, by go_num, HTA.out, HSM⟩
            case measure => have := HX.out; simp [intOf]; omega
        · obtain rfl : j = k := by omega
          have hkl : l.take j = l := List.take_of_length_le (by have := HP.out.n; omega)
          rw [hkl] at HGR HLN
          rw [hkl]
          have HBR : Hid (Below w.heap.size w wr) := HBE.out.trans (HGR.out.bel.mono HBE.out.size)
          have cv : (convert 36 9 (.slice qo (keyN l).length mo)).run Try.prog wr = .ok (.string (strOf (keyN l))) wr := conv_at (own_at HGR.out.own rfl (keyN_byte (fun p hp => (HP.out.wf p hp).int))) rfl
          clear hjk hsm hkl
          by_cases hlong : 256 < (keyN l).length
          · have g2 : decide ((256 : Int) < ((keyN l).length : Int)) = true := decide_eq_true (by omega)
            have HE : Hid (R = (ByteArray.empty, 60)) := by rw [← HR.out]; exact makeR_long H8.out HM.out hlong
            clear hlong
            go_wp2
            go_ret2
            exact ⟨by rw [HE.out]; rfl, HBR.out⟩
          · have g2 : decide ((256 : Int) < ((keyN l).length : Int)) = false := decide_eq_false (by omega)
            have HE : Hid (R = (strOf (keyN l), 0)) := by rw [← HR.out]; exact makeR_ok H8.out HM.out hlong
            clear hlong
            go_wp2
            go_ret2
            exact ⟨by rw [HE.out]; rfl, HBR.out⟩
end Go.Proofs.Ythebnealkekdmaa
namespace Go.Proofs.Ythebnealkekdmaa
open Go.RowKit Go.WideShapes

def oneE (n : Nat) : Option (PartV × List Nat) → Value
  | some (p, r) => .tuple #[partV p, .int .i64 ((n - r.length : Nat) : Int)]
  | none => .tuple #[partV zeroP, .int .i64 0]
theorem results_cell_tmp1 {fn : Func} {p t : Tmp} {ty : TypeId} (h : fn.results = #[.cell p ty, .tmp t]) (tmps : Array Value) (P : Program) (w : World) :
    (results fn tmps).run P w = ((asAddr (tmps.getD p undef)).run P w).andThen fun a w₁ => ((loadVar ty a).run P w₁).andThen fun v w₂ => .ok (.tuple #[v, tmps.getD t undef]) w₂ := by
  simp only [results, h]
  simp [Sem.run_bind, Result.andThen]
theorem bin_set {W : World} {g k c : Nat} {xs : List Nat} (h : BIn W (some ⟨g, 0, none⟩) xs) (hk : k < xs.length) (hc : c < 256) : BIn (W.setCell ⟨g, k, none⟩ (.int .u8 c)) (some ⟨g, 0, none⟩) (xs.set k c) := by
  refine ⟨fun _ => ⟨g, 0, rfl, fun i hi => ?_⟩, fun x hx => ?_⟩
  · rw [List.length_set] at hi
    have h1 := h.cell i hi
    by_cases e : i = k
    · subst e
      rw [Nat.zero_add] at h1 ⊢
      rw [World.cell?_setCell_same _ _ _ h1]
      simp [List.getD, hi]
    · rw [World.cell?_setCell_other _ _ _ _ (by intro hh; simp only [Addr.mk.injEq] at hh; omega), h1]
      rw [List.getD_eq_getElem?_getD, List.getD_eq_getElem?_getD, List.getElem?_set_ne (by omega)]
  · rcases List.mem_or_eq_of_mem_set hx with h2 | h2
    · exact h.2 x h2
    · omega
theorem frozen_set (W : World) (g i j : Nat) (v : Value) : (W.setCell ⟨g, i, none⟩ v).frozen? ⟨g, j, none⟩ = W.frozen? ⟨g, j, none⟩ := by simp
theorem zeros8 (n : Nat) : (madeCells #[Value.int .u8 0] n).toList = Bs (List.replicate n 0) := by
  rw [toList_madeCells_one]
  simp [Bs]
theorem row_frozen {w : World} {base n g : Nat} {xs : List Value} (h : w.ownsRow base 5 1 (.slice (some ⟨g, 0, none⟩) n n) n xs) (j : Nat) : w.frozen? ⟨g, j, none⟩ = false := by
  rcases h.2 with ⟨h, _⟩ | ⟨g', cap, cur, hv, _, hg, _⟩
  · simp at h
  · simp only [Value.slice.injEq, Option.some.injEq, Addr.mk.injEq, and_true] at hv
    obtain ⟨rfl, _⟩ := hv
    exact Lib.frozen_of_heap hg j
theorem sub_turn {v : Nat} (h : v < 18446744073709551616) : IntKind.u64.wrap ((v : Int) - 9223372036854775808) = (turn v : Int) := by
  rw [IntKind.wrap_u64]; unfold turn; split <;> omega
theorem kpC {w w1 : World} {g i : Nat} {u : Value} (h : Keeps w w1) (hg : w.heap.size < g) : Keeps w (w1.setCell ⟨g, i, none⟩ u) := kpG h ⟨rfl, rfl, rfl, by simp, fun k _ hn => Below.heap_setCell w1 ⟨g, i, none⟩ u k (fun e => hn (by rw [e]))⟩ hg
structure OnB (w : World) (g : Nat) (T : List Nat) (k : Nat) (wr : World) : Prop where
  keep : Keeps w wr
  row : ∃ xs, BIn wr (some ⟨g, 0, none⟩) xs ∧ xs.length = 8 ∧ ∀ j, j < k → xs.getD j 0 = T.getD j 0
  fr : ∀ j, wr.frozen? ⟨g, j, none⟩ = false
theorem OnB.set {w : World} {g k c : Nat} {T : List Nat} {wr : World} (h : OnB w g T k wr) (hg : w.heap.size < g) (hk : k < 8) (hc : c < 256) (hT : T.getD k 0 = c) : OnB w g T (k + 1) (wr.setCell ⟨g, k, none⟩ (.int .u8 c)) := by
  obtain ⟨xs, h1, h2, h3⟩ := h.row
  refine ⟨kpC h.keep hg, ⟨xs.set k c, bin_set h1 (by omega) hc, by rw [List.length_set]; exact h2, fun j hj => ?_⟩, fun j => (frozen_set _ _ _ _ _).trans (h.fr j)⟩
  by_cases e : j = k
  · subst e
    rw [hT]
    simp [List.getD, h2, hk]
  · rw [List.getD_eq_getElem?_getD, List.getElem?_set_ne (by omega), ← List.getD_eq_getElem?_getD]
    exact h3 j (by omega)
theorem OnB.cell {w : World} {g k : Nat} {T : List Nat} {wr : World} (h : OnB w g T k wr) (j : Nat) (hj : j < 8) : ∃ u, wr.cell? ⟨g, j, none⟩ = some u := by
  obtain ⟨xs, h1, h2, _⟩ := h.row
  have := h1.cell j (by omega)
  rw [Nat.zero_add] at this
  exact ⟨_, this⟩
theorem OnB.done {w : World} {g : Nat} {T : List Nat} {wr : World} (h : OnB w g T 8 wr) (hT : T.length = 8) : BIn wr (some ⟨g, 0, none⟩) T := by
  obtain ⟨xs, h1, h2, h3⟩ := h.row
  have : xs = T := by
    apply List.ext_getElem (by omega)
    intro i hi1 hi2
    have := h3 i (by omega)
    rw [List.getD_eq_getElem?_getD, List.getD_eq_getElem?_getD, List.getElem?_eq_getElem hi1, List.getElem?_eq_getElem hi2] at this
    exact this
  rw [← this]; exact h1
theorem nums_drop_at {s : ByteArray} {i c : Nat} (hi : i < s.size) (hc : (s[i]'hi).toNat = c) : (numsOf s).drop i = c :: (numsOf s).drop (i + 1) := by
  rw [drop_cons' (d := 0) (by rw [numsOf_len]; exact hi), nums_at hi, hc]
structure OnT (w : World) (s : ByteArray) (R : Option (List Nat × List Nat)) (i : Nat) (v : Value) (acc : List Nat) (wr : World) : Prop where
  gr : Gr (w.heap.size + 1) (w.alloc boxP) wr v acc
  i1 : 1 ≤ i
  len : acc.length + 1 ≤ i
  le : i ≤ s.size
  byte : ∀ c ∈ acc, c < 256
  un : (unesc ((numsOf s).drop i)).map (fun q => (acc ++ q.1, q.2)) = R
theorem OnT.keep {w : World} {s : ByteArray} {R : Option (List Nat × List Nat)} {i : Nat} {v : Value} {acc : List Nat} {wr : World} (h : OnT w s R i v acc wr) : Keeps w wr := ⟨kpB.1.below h.gr.bel (by omega), kpB.2.trans (h.gr.bel.mono (by omega))⟩
theorem start_t (w : World) (s : ByteArray) (h : 0 < s.size) : OnT w s (unesc ((numsOf s).drop 1)) 1 (.slice none 0 0) [] (w.alloc boxP) := by
  have hg := gr_nil (w.alloc boxP)
  rw [show (w.alloc boxP).heap.size = w.heap.size + 1 by simp] at hg
  refine ⟨hg, by omega, by simp, h, by simp, ?_⟩
  cases unesc ((numsOf s).drop 1) <;> simp
set_option maxRecDepth 8000 in
set_option maxHeartbeats 8000000 in
theorem rone_num (s : ByteArray) (w : World) (h0 : 0 < s.size) (h1 : (s[0]'h0).toNat = 1) (h9 : 9 ≤ s.size) (hs : (s.size : Int) ≤ 1000) :
    Calls Try.prog 34 #[.string s] w fun e w' => e = .returned (oneE s.size (cut1 (numsOf s))) ∧ Below w.heap.size w w' := by
  obtain ⟨j0, hj, hy0, hy1, hy2⟩ := info_parts info5
  have h0I : (0 : Int) < (s.size : Int) := by omega
  have h9I : decide ((9 : Int) ≤ (s.size : Int)) = true := decide_eq_true (by omega)
  obtain ⟨T, hT⟩ : ∃ T, ((numsOf s).drop 1).take 8 = T := ⟨_, rfl⟩
  have HT8 : Hid (T.length = 8 ∧ (∀ c ∈ T, c < 256) ∧ ∀ j, j < 8 → T.getD j 0 = (numsOf s).getD (j + 1) 0) := by
    refine ⟨by rw [← hT, List.length_take, List.length_drop, numsOf_len]; omega, fun c hc => by rw [← hT] at hc; exact numsOf_lt s c (List.mem_of_mem_drop (List.mem_of_mem_take hc)), fun j hj => ?_⟩
    rw [← hT]
    rw [List.getD_eq_getElem?_getD, List.getD_eq_getElem?_getD, List.getElem?_take_of_lt hj, List.getElem?_drop, Nat.add_comm]
  have HCU : Hid (cut1 (numsOf s) = some (⟨1, (valN T : Int) - 9223372036854775808, ByteArray.empty⟩, (numsOf s).drop 9)) := by
    show _ = _
    have e0 := nums_drop_at h0 h1
    rw [List.drop_zero] at e0
    rw [show cut1 (numsOf s) = cut1 (1 :: (numsOf s).drop 1) from congrArg cut1 e0, cut1_cons, if_pos rfl, if_pos (by rw [List.length_drop, numsOf_len]; omega), hT, List.drop_drop]
  have hVV : valN T < 18446744073709551616 := by
    have hv := valN_lt T HT8.out.2.1
    have hp : (256 : Nat) ^ 8 = 18446744073709551616 := by decide
    rw [HT8.out.1, hp] at hv
    exact hv
  obtain ⟨v, hv⟩ : ∃ v, valN T = v := ⟨_, rfl⟩
  rw [hv] at hVV HCU
  have HV : Hid (valN T = v ∧ v < 18446744073709551616) := ⟨hv, hVV⟩
  have k1 := sub_turn hVV
  have k2 := turn_wrap hVV
  have HTR : Hid (∀ j, j < 8 → T.reverse.getD j 0 = (numsOf s).getD (8 - j) 0) := fun j hj => by
    have h8 := HT8.out.1
    rw [List.getD_eq_getElem?_getD, List.getElem?_eq_getElem (by rw [List.length_reverse]; omega), Option.getD_some, List.getElem_reverse]
    have := HT8.out.2.2 (7 - j) (by omega)
    rw [List.getD_eq_getElem?_getD, List.getElem?_eq_getElem (by omega)] at this
    simp only [Option.getD_some] at this
    have e : T.length - 1 - j = 7 - j := by omega
    simp only [e]
    rw [this]
    congr 1
    omega
  have hsz9 : 9 ≤ s.size := h9
  clear hT hv hVV h9
  go_enter Try.func34, Try.ntmps34
  go_wp2_with (at_make; refine wpList_make_full _ rfl _ _ 36 rfl (w.heap.size + 1) 5 j0 (.int .u8 0) 1 Try.underlying36 hj hy0 hy1 .i64 .i64 _ _ 8 rfl rfl rfl rfl (by rw [hy2]; decide) (by decide) (by simp) ?_; intro wm hom hgm; have HOM : Hid _ := hom; have HGM : Hid _ := hgm; clear hom hgm)
  have hbm : OnB w (w.heap.size + 1) T.reverse 0 wm := by
    have ho := HOM.out
    have hg := HGM.out
    rw [show (w.alloc (.cells #[.int .u8 0, .int .i64 0, .string ⟨#[]⟩] 26)).heap.size = w.heap.size + 1 by simp] at ho
    refine ⟨kpW kpB (by exact ⟨hg.os, hg.tape, hg.output, hg.size, fun k hk => hg.block k hk (by simp)⟩), ⟨List.replicate 8 0, own_at (n := 8) (by rw [← zeros8]; exact ho) (by simp) (by simp), by simp, fun j hj => absurd hj (by omega)⟩, fun j => ?_⟩
    exact row_frozen ho j
  have HBM : Hid (OnB w (w.heap.size + 1) T.reverse 0 wm) := hbm
  clear hbm HOM HGM
  go_loopw [5] (fun i wr => ∃ k : Nat, k ≤ 8 ∧ i = .int .i64 k ∧ OnB w (w.heap.size + 1) T.reverse k wr) (fun i _ => 8 - (intOf i).toNat)
  case atStart => exact ⟨0, by omega, rfl, HBM.out⟩
  case round =>
    clear HBM
    obtain ⟨k, hk, rfl, hon⟩ := hrel
    have HON : Hid (OnB w (w.heap.size + 1) T.reverse k wr) := hon
    clear hon
    by_cases hk8 : k < 8
    · have hkI : (k : Int) < 8 := by omega
      have kk : IntKind.i64.wrap (8 - (k : Int)) = ((8 - k : Nat) : Int) := by rw [IntKind.wrap_i64]; omega
      obtain ⟨j, hj8⟩ : ∃ j, 8 - k = j := ⟨_, rfl⟩
      rw [hj8] at kk
      have hjs : j < s.size := by omega
      have hjI : (j : Int) < (s.size : Int) := by omega
      obtain ⟨c, hc⟩ : ∃ c, (s[j]'hjs).toNat = c := ⟨_, rfl⟩
      have hc256 : c < 256 := by rw [← hc]; exact UInt8.toNat_lt _
      obtain ⟨u, hu⟩ := HON.out.cell k hk8
      have hfz := HON.out.fr k
      have HN : Hid (OnB w (w.heap.size + 1) T.reverse (k + 1) (wr.setCell ⟨w.heap.size + 1, k, none⟩ (.int .u8 c))) := HON.out.set (by omega) hk8 hc256 (by rw [HTR.out k hk8, hj8, nums_at hjs, hc])
      have HK : Hid (k < 8) := hk8
      clear hk8 hj8
      go_wp2
      go_roundw
      case rel => exact ⟨k + 1, by have := HK.out; omega, by go_num, HN.out⟩
      case measure => have := HK.out; simp [intOf]; omega
    · obtain rfl : k = 8 := by omega
      clear hk8
      have hrow := HON.out.done (by rw [List.length_reverse]; exact HT8.out.1)
      obtain ⟨b0, b1, b2, b3, b4, b5, b6, b7, h8e⟩ := eight (x := T) (by rw [HT8.out.1]; omega)
      rw [List.take_of_length_le (by rw [HT8.out.1]; omega)] at h8e
      rw [h8e] at hrow
      have HRW : Hid (BIn wr (some ⟨w.heap.size + 1, 0, none⟩) [b7, b6, b5, b4, b3, b2, b1, b0]) := hrow
      have HJV : Hid (joinN b7 b6 b5 b4 b3 b2 b1 b0 = v) := by show _ = _; rw [join_val, ← h8e]; exact HV.out.1
      clear hrow h8e
      go_wp2_with fail
      refine (refGet_ok (some ⟨w.heap.size + 1, 0, none⟩) 8 b7 b6 b5 b4 b3 b2 b1 b0 _ HRW.out).mono ?_
      rintro e w3 ⟨rfl, rfl⟩
      rw [HJV.out]
      obtain ⟨⟨c0, z0⟩, ⟨c1, z1⟩, c2, z2⟩ := HON.out.keep.1
      go_wp2
      (try simp only [Exit.inBlock, Exit.then])
      refine bodyPost_ret (v := oneE s.size (cut1 (numsOf s))) ?_ rfl ⟨rfl, set3_below HON.out.keep.2⟩
      have HVV : Hid (oneE s.size (cut1 (numsOf s)) = .tuple #[.agg #[.int .u8 1, .int .i64 ((v : Int) - 9223372036854775808), .string ByteArray.empty], .int .i64 9]) := by
        show _ = _
        rw [HCU.out]
        show Value.tuple #[_, .int .i64 ((s.size - ((numsOf s).drop 9).length : Nat) : Int)] = _
        rw [List.length_drop, numsOf_len, show s.size - (s.size - 9) = 9 by omega]
        rfl
      rw [results_cell_tmp1 rfl, HVV.out]
      go_simp
      rfl
set_option maxRecDepth 8000 in
set_option maxHeartbeats 8000000 in
theorem rone_word (s : ByteArray) (w : World) (h0 : 0 < s.size) (h2 : (s[0]'h0).toNat = 2) (hs : (s.size : Int) ≤ 1000) :
    Calls Try.prog 34 #[.string s] w fun e w' => e = .returned (oneE s.size (cut1 (numsOf s))) ∧ Below w.heap.size w w' := by
  have h0I : (0 : Int) < (s.size : Int) := by omega
  obtain ⟨R, hR⟩ : ∃ R, unesc ((numsOf s).drop 1) = R := ⟨_, rfl⟩
  have HCU : Hid (cut1 (numsOf s) = R.map wordR) := by
    show _ = _
    have e0 := nums_drop_at h0 h2
    rw [List.drop_zero] at e0
    rw [show cut1 (numsOf s) = cut1 (2 :: (numsOf s).drop 1) from congrArg cut1 e0, cut1_cons, if_neg (by omega), if_pos rfl, hR]
    rfl
  have hst := start_t w s h0
  rw [hR] at hst
  have HST : Hid (OnT w s R 1 (.slice none 0 0) [] (w.alloc boxP)) := hst
  have g0 : (((s[0]'h0).toNat : Int) == 1) = false := by simp [h2]
  clear hst hR
  go_enter Try.func34, Try.ntmps34
  go_wp2
  go_loopw [8, 9] (fun v i wr => ∃ (k : Nat) (acc : List Nat), i = .int .i64 k ∧ OnT w s R k v acc wr) (fun _ i _ => s.size - (intOf i).toNat)
  case atStart => exact ⟨1, [], rfl, HST.out⟩
  case round =>
    clear HST
    obtain ⟨k, acc, rfl, hon⟩ := hrel
    obtain ⟨qv, mv, rfl, _, _, _⟩ := own_form hon.gr.own
    have HON : Hid (OnT w s R k (.slice qv acc.length mv) acc wr) := hon
    have hks : k ≤ s.size := hon.le
    have k1 : IntKind.i64.wrap ((k : Int) + 1) = ((k + 1 : Nat) : Int) := by rw [IntKind.wrap_i64]; omega
    have HLN : Hid (acc.length ≤ 1000) := by have := hon.len; show _ ≤ _; omega
    clear hon
    by_cases hlt : k + 1 < s.size
    · have hltI : ((k + 1 : Nat) : Int) < (s.size : Int) := by omega
      have hkI : (k : Int) < (s.size : Int) := by omega
      have hkn : k < s.size := by omega
      obtain ⟨c, hc⟩ : ∃ c, (s[k]'hkn).toNat = c := ⟨_, rfl⟩
      obtain ⟨d, hd⟩ : ∃ d, (s[k + 1]'hlt).toNat = d := ⟨_, rfl⟩
      have hc256 : c < 256 := by rw [← hc]; exact UInt8.toNat_lt _
      have HDK : Hid ((numsOf s).drop k = c :: (numsOf s).drop (k + 1) ∧ (numsOf s).drop (k + 1) = d :: (numsOf s).drop (k + 2)) := ⟨nums_drop_at hkn hc, nums_drop_at hlt hd⟩
      have HKL : Hid (k + 1 < s.size) := hlt
      by_cases h0c : c = 0
      · have g1 : ((c : Int) == 0) = true := by simp [h0c]
        by_cases h1d : d = 1
        · have g2 : ((d : Int) == 1) = true := by simp [h1d]
          have k2 : IntKind.i64.wrap ((k : Int) + 2) = ((k + 2 : Nat) : Int) := by rw [IntKind.wrap_i64]; omega
          have HRV : Hid (R = some (acc, (numsOf s).drop (k + 2))) := by
            have := HON.out.un
            rw [HDK.out.1, HDK.out.2, h0c, h1d] at this
            have e : unesc (0 :: 1 :: (numsOf s).drop (k + 2)) = some ([], (numsOf s).drop (k + 2)) := by unfold unesc; rw [if_pos rfl, if_pos rfl]
            rw [e] at this
            show R = _
            simpa using this.symm
          have cv : (convert 36 9 (.slice qv acc.length mv)).run Try.prog wr = .ok (.string (strOf acc)) wr := conv_at (own_at HON.out.gr.own rfl HON.out.byte) rfl
          obtain ⟨⟨c0, z0⟩, ⟨c1, z1⟩, c2, z2⟩ := HON.out.keep.1
          clear h0c h1d
          go_wp2
          (try simp only [Exit.inBlock, Exit.then])
          refine bodyPost_ret (v := oneE s.size (cut1 (numsOf s))) ?_ rfl ⟨rfl, set3_below HON.out.keep.2⟩
          have HVV : Hid (oneE s.size (cut1 (numsOf s)) = .tuple #[.agg #[.int .u8 2, .int .i64 0, .string (strOf acc)], .int .i64 ((k + 2 : Nat) : Int)]) := by
            show _ = _
            rw [HCU.out, HRV.out]
            show Value.tuple #[_, .int .i64 ((s.size - ((numsOf s).drop (k + 2)).length : Nat) : Int)] = _
            rw [List.length_drop, numsOf_len, show s.size - (s.size - (k + 2)) = k + 2 by have := HKL.out; omega]
            rfl
          rw [results_cell_tmp1 rfl, HVV.out]
          go_simp
        · have g2 : ((d : Int) == 1) = false := by simp; omega
          by_cases h255 : d = 255
          · have g3 : ((d : Int) == 255) = true := by simp [h255]
            have HUN : Hid ((unesc ((numsOf s).drop (k + 2))).map (fun q => (acc ++ [0] ++ q.1, q.2)) = R) := by
              have := HON.out.un
              rw [HDK.out.1, HDK.out.2, h0c, h255] at this
              have e : unesc (0 :: 255 :: (numsOf s).drop (k + 2)) = (unesc ((numsOf s).drop (k + 2))).map (fun q => (0 :: q.1, q.2)) := by
                conv => lhs; unfold unesc
                rw [if_pos rfl, if_neg (by omega), if_pos rfl]
              rw [e] at this
              show _ = _
              rw [← this, Option.map_map]
              congr 1
              funext q
              simp
            have k2 : IntKind.i64.wrap (((k + 1 : Nat) : Int) + 1) = ((k + 2 : Nat) : Int) := by rw [IntKind.wrap_i64]; omega
            have HA : Hid (Gr (w.heap.size + 1) (w.alloc boxP) (wr.alloc (.cells #[.int .u8 0] 5)) (.slice qv acc.length mv) acc) := HON.out.gr.call (below_alloc _ _)
            have HBO : Hid (BIn (wr.alloc (.cells #[.int .u8 0] 5)) (some ⟨wr.heap.size, 0, none⟩) [0]) := bin_one wr 0 (by omega)
            have hza := HA.out.size
            clear h0c h1d h255
            go_wp2_with (at_builtin; refine wpList_append_bytes _ rfl _ _ rfl (w.heap.size + 1) _ _ [0] (some ⟨wr.heap.size, 0, none⟩) _ 1 rfl rfl rfl HA.out.own HBO.out (fun h => by cases h) (by have := HLN.out; simp only [List.length_cons, List.length_nil]; omega) hza ?_; intro va ua hoa hga; have ta := HA.out.app hoa hga; have HTA : Hid _ := ta; clear ta hoa hga)
            go_roundw
            case rel =>
              refine ⟨k + 2, acc ++ [0], by first | rfl | go_num, ⟨HTA.out, by omega, ?_, by have := HKL.out; omega, ?_, HUN.out⟩⟩
              · have := HON.out.len; rw [List.length_append, List.length_singleton]; omega
              · intro x hx
                rcases List.mem_append.1 hx with h | h
                · exact HON.out.byte x h
                · simp at h; omega
            case measure => have := HKL.out; simp [intOf]; omega
          · have g3 : ((d : Int) == 255) = false := by simp; omega
            have HRN : Hid (R = none) := by
              have := HON.out.un
              rw [HDK.out.1, HDK.out.2, h0c] at this
              have e : unesc (0 :: d :: (numsOf s).drop (k + 2)) = none := by unfold unesc; rw [if_pos rfl, if_neg h1d, if_neg h255]
              rw [e] at this
              exact this.symm
            obtain ⟨⟨c0, z0⟩, ⟨c1, z1⟩, c2, z2⟩ := HON.out.keep.1
            clear h0c h1d h255
            go_wp2
            (try simp only [Exit.inBlock, Exit.then])
            refine bodyPost_ret (v := oneE s.size (cut1 (numsOf s))) ?_ rfl ⟨rfl, set3_below HON.out.keep.2⟩
            rw [results_cell_tmp1 rfl, HCU.out, HRN.out]
            go_simp
            rfl
      · have g1 : ((c : Int) == 0) = false := by simp; omega
        have HUN : Hid ((unesc ((numsOf s).drop (k + 1))).map (fun q => (acc ++ [c] ++ q.1, q.2)) = R) := by
          have := HON.out.un
          rw [HDK.out.1] at this
          have e := unesc_pre [c] ((numsOf s).drop (k + 1)) (by simpa using h0c)
          rw [List.singleton_append] at e
          rw [e] at this
          show _ = _
          rw [← this, Option.map_map]
          congr 1
          funext q
          simp
        have HA : Hid (Gr (w.heap.size + 1) (w.alloc boxP) (wr.alloc (.cells #[.int .u8 c] 5)) (.slice qv acc.length mv) acc) := HON.out.gr.call (below_alloc _ _)
        have HBO : Hid (BIn (wr.alloc (.cells #[.int .u8 c] 5)) (some ⟨wr.heap.size, 0, none⟩) [c]) := bin_one wr c hc256
        have HC256 : Hid (c < 256) := hc256
        have hza := HA.out.size
        clear h0c
        go_wp2_with (at_builtin; refine wpList_append_bytes _ rfl _ _ rfl (w.heap.size + 1) _ _ [c] (some ⟨wr.heap.size, 0, none⟩) _ 1 rfl rfl rfl HA.out.own HBO.out (fun h => by cases h) (by have := HLN.out; simp only [List.length_cons, List.length_nil]; omega) hza ?_; intro va ua hoa hga; have ta := HA.out.app hoa hga; have HTA : Hid _ := ta; clear ta hoa hga)
        go_roundw
        case rel =>
          refine ⟨k + 1, acc ++ [c], by first | rfl | go_num, ⟨HTA.out, by omega, ?_, by have := HKL.out; omega, ?_, HUN.out⟩⟩
          · have := HON.out.len; rw [List.length_append, List.length_singleton]; omega
          · intro x hx
            rcases List.mem_append.1 hx with h | h
            · exact HON.out.byte x h
            · simp at h; have := HC256.out; omega
        case measure => have := HKL.out; simp [intOf]; omega
    · have hltI : ¬ ((k + 1 : Nat) : Int) < (s.size : Int) := by omega
      have g1 : decide (((k + 1 : Nat) : Int) < (s.size : Int)) = false := decide_eq_false hltI
      have g2 : decide (k + 1 < s.size) = false := decide_eq_false hlt
      have HRN : Hid (R = none) := by
        have hu := HON.out.un
        have e : unesc ((numsOf s).drop k) = none := by
          have hl : ((numsOf s).drop k).length ≤ 1 := by rw [List.length_drop, numsOf_len]; omega
          match hh : (numsOf s).drop k, hl with
          | [], _ => rfl
          | [x], _ => simp [unesc]
          | _ :: _ :: _, h => simp at h
        rw [e] at hu
        exact hu.symm
      obtain ⟨⟨c0, z0⟩, ⟨c1, z1⟩, c2, z2⟩ := HON.out.keep.1
      have hge : (s.size : Int) ≤ ((k + 1 : Nat) : Int) := by omega
      have hge2 : s.size ≤ k + 1 := by omega
      clear hlt hltI
      go_wp2
      (try simp only [Exit.inBlock, Exit.then])
      refine bodyPost_ret (v := oneE s.size (cut1 (numsOf s))) ?_ rfl ⟨rfl, set3_below HON.out.keep.2⟩
      rw [results_cell_tmp1 rfl, HCU.out, HRN.out]
      go_simp
      rfl
end Go.Proofs.Ythebnealkekdmaa
namespace Go.Proofs.Ythebnealkekdmaa
open Go.RowKit Go.WideShapes

theorem oneE_some (m : Nat) (k i : Int) (t : ByteArray) (r : List Nat) : oneE m (some (⟨k, i, t⟩, r)) = .tuple #[.agg #[.int .u8 k, .int .i64 i, .string t], .int .i64 ((m - r.length : Nat) : Int)] := rfl
theorem oneE_none (m : Nat) : oneE m none = .tuple #[.agg #[.int .u8 0, .int .i64 0, .string ByteArray.empty], .int .i64 0] := rfl
theorem rone_bad (s : ByteArray) (w : World) (h0 : 0 < s.size) (hs : (s.size : Int) ≤ 1000) (hb : ((s[0]'h0).toNat = 1 ∧ s.size < 9) ∨ ((s[0]'h0).toNat ≠ 1 ∧ (s[0]'h0).toNat ≠ 2)) :
    Calls Try.prog 34 #[.string s] w fun e w' => e = .returned (oneE s.size (cut1 (numsOf s))) ∧ Below w.heap.size w w' := by
  have h0I : (0 : Int) < (s.size : Int) := by omega
  have HN : Hid (cut1 (numsOf s) = none) := by
    show _ = _
    rcases hb with ⟨h1, h9⟩ | ⟨h1, h2⟩
    · have e0 := nums_drop_at h0 h1
      rw [List.drop_zero] at e0
      rw [show cut1 (numsOf s) = cut1 (1 :: (numsOf s).drop 1) from congrArg cut1 e0, cut1_cons, if_pos rfl, if_neg (by rw [List.length_drop, numsOf_len]; omega)]
    · have e0 := nums_drop_at h0 rfl
      rw [List.drop_zero] at e0
      rw [show cut1 (numsOf s) = cut1 ((s[0]'h0).toNat :: (numsOf s).drop 1) from congrArg cut1 e0, cut1_cons, if_neg h1, if_neg h2]
  obtain ⟨d, hd⟩ : ∃ d, (s[0]'h0).toNat = d := ⟨_, rfl⟩
  rw [hd] at hb
  rcases hb with ⟨h1, h9⟩ | ⟨h1, h2⟩
  · have g1 : ((d : Int) == 1) = true := by simp [h1]
    have g2 : ((d : Int) == 2) = false := by simp [h1]
    have g3 : decide ((9 : Int) ≤ (s.size : Int)) = false := decide_eq_false (by omega)
    clear h1 h9
    go_enter Try.func34, Try.ntmps34
    go_wp2
    (try simp only [Exit.inBlock, Exit.then])
    refine bodyPost_ret (v := oneE s.size (cut1 (numsOf s))) ?_ rfl ⟨rfl, below_alloc _ _⟩
    rw [results_cell_tmp1 rfl, HN.out]
    go_simp
    rfl
  · have g1 : ((d : Int) == 1) = false := by simp; omega
    have g2 : ((d : Int) == 2) = false := by simp; omega
    clear h1 h2
    go_enter Try.func34, Try.ntmps34
    go_wp2
    (try simp only [Exit.inBlock, Exit.then])
    refine bodyPost_ret (v := oneE s.size (cut1 (numsOf s))) ?_ rfl ⟨rfl, below_alloc _ _⟩
    rw [results_cell_tmp1 rfl, HN.out]
    go_simp
    rfl
theorem rone_any (s : ByteArray) (w : World) (h0 : 0 < s.size) (hs : (s.size : Int) ≤ 1000) (R : Option (PartV × List Nat)) (hR : cut1 (numsOf s) = R) :
    Calls Try.prog 34 #[.string s] w fun e w' => e = .returned (oneE s.size R) ∧ Below w.heap.size w w' := by
  subst hR
  by_cases h1 : (s[0]'h0).toNat = 1
  · by_cases h9 : 9 ≤ s.size
    · exact rone_num s w h0 h1 h9 hs
    · exact rone_bad s w h0 hs (.inl ⟨h1, by omega⟩)
  · by_cases h2 : (s[0]'h0).toNat = 2
    · exact rone_word s w h0 h2 hs
    · exact rone_bad s w h0 hs (.inr ⟨h1, h2⟩)
set_option maxRecDepth 8000 in
set_option maxHeartbeats 4000000 in
theorem rCut_any (s : ByteArray) (w : World) (hs : (s.size : Int) ≤ 1000000) (L : List PartV) (E : Nat) (hR : cutR (numsOf s) = (L, E)) :
    Calls Try.prog 17 #[.string s] w fun e w' => ∃ v, e = .returned (.tuple #[v, .int .i64 E]) ∧ PtOwn w' w.heap.size v L ∧ Below w.heap.size w w' := by
  have HR : Hid (cutR (numsOf s) = (L, E)) := hR
  by_cases hl : 256 < s.size
  · have g1 : decide ((256 : Int) < (s.size : Int)) = true := decide_eq_true (by omega)
    have HE : Hid (L = [] ∧ E = 60) := by
      have h2 : cutR (numsOf s) = ([], 60) := cutR_no fun l h => by have := h.len; rw [numsOf_len] at this; omega
      rw [h2] at hR
      simp only [Prod.mk.injEq] at hR
      exact ⟨hR.1.symm, hR.2.symm⟩
    clear hR hl
    go_enter Try.func17, Try.ntmps17
    go_wp2
    go_ret2
    exact ⟨.slice none 0 0, by rw [HE.out.2]; rfl, by rw [HE.out.1]; exact ptown_nil _ _, Below.refl _ _⟩
  have g1 : decide ((256 : Int) < (s.size : Int)) = false := decide_eq_false (by omega)
  have HS : Hid (s.size ≤ 256) := by show _ ≤ _; omega
  obtain ⟨i0, hi, hz0, hz1, hz2⟩ := info_parts' info_part
  clear hR hl hs
  go_enter Try.func17, Try.ntmps17
  go_wp2
  go_loopw [0, 4] (fun v0 v4 wr => ∃ rest l, v0 = .string rest ∧ OnC w s rest l v4 wr) (fun v0 _ _ => strLen v0)
  case atStart => exact ⟨s, [], rfl, on_start w s HS.out⟩
  case round =>
    obtain ⟨rest, l, rfl, hon⟩ := hrel
    obtain ⟨q, m, rfl, _, _, _⟩ := hon.own.form
    have HON : Hid (OnC w s rest l (.slice q l.length m) wr) := hon
    have HRS : Hid (rest.size ≤ 256) := by
      have h1 := hon.cut.len
      rw [hon.cut.split, List.length_append, numsOf_len] at h1
      show _ ≤ _
      omega
    have hl8 : (l.length : Int) ≤ 8 := by have := hon.cut.many; omega
    clear hon
    by_cases h0 : rest.size = 0
    · have g2I : decide ((0 : Int) < (rest.size : Int)) = false := decide_eq_false (by omega)
      have g2N : decide (0 < rest.size) = false := decide_eq_false (by omega)
      have g2L : (rest.size : Int) ≤ 0 := by omega
      have HE : Hid (L = l ∧ E = 0) := by
        have h1 := HON.out.cut
        rw [nums_nil h0] at h1
        have h2 := h1.done
        rw [HR.out] at h2
        simp only [Prod.mk.injEq] at h2
        exact h2
      clear h0
      go_wp2
      go_ret2
      exact ⟨_, by rw [HE.out.2]; rfl, by rw [HE.out.1]; exact HON.out.own, HON.out.bel⟩
    · have hpos : 0 < rest.size := by omega
      have g2 : (0 : Int) < (rest.size : Int) := by omega
      have HNE : Hid (numsOf rest ≠ []) := by intro e; have := congrArg List.length e; rw [numsOf_len] at this; exact absurd this (show ¬ rest.size = 0 by omega)
      obtain ⟨R, hR⟩ : ∃ R, cut1 (numsOf rest) = R := ⟨_, rfl⟩
      have HC := fun w' => rone_any rest w' hpos (by have := HRS.out; omega) R hR
      have HCR : Hid (cut1 (numsOf rest) = R) := hR
      clear h0 hR
      go_wp2_with fail
      refine (HC _).mono ?_
      rintro e w2 ⟨rfl, hb2⟩
      have H2 : Hid (OnC w s rest l (.slice q l.length m) w2) := HON.out.below hb2
      clear hb2 HC HON
      cases R with
      | none =>
        have HE : Hid (L = [] ∧ E = 60) := by
          have h2 := H2.out.cut.no HNE.out (.inl HCR.out)
          rw [HR.out] at h2
          simp only [Prod.mk.injEq] at h2
          exact h2
        rw [oneE_none]
        go_wp2
        go_ret2
        exact ⟨.slice none 0 0, by rw [HE.out.2]; rfl, by rw [HE.out.1]; exact ptown_nil _ _, below_bt H2.out.bel (below_alloc _ _)⟩
      | some pr =>
        obtain ⟨⟨pk, pi, pt⟩, r⟩ := pr
        rw [oneE_some]
        obtain ⟨nn, hnn⟩ : ∃ nn, rest.size - r.length = nn := ⟨_, rfl⟩
        rw [hnn]
        have hrs := rest_size H2.out.cut HCR.out
        have hnp : 0 < nn := by have := hrs.1; rw [numsOf_len] at this; omega
        have hnle : (nn : Int) ≤ (rest.size : Int) := by omega
        have gn : ((nn : Int) == 0) = false := by simp; omega
        have HNN : Hid (numsOf (rest.extract nn rest.size) = r ∧ (rest.extract nn rest.size).size < rest.size) := by
          have h2 := (cut1_only (numsOf_lt rest) HCR.out).2
          have hl := congrArg List.length h2
          rw [numsOf_len, List.length_append] at hl
          refine ⟨?_, by simp [ByteArray.size_extract]; omega⟩
          rw [numsOf_extract, List.take_of_length_le (by rw [List.length_drop, numsOf_len]; omega), h2, List.drop_left' (by omega)]
        clear hrs hnn
        by_cases h8 : l.length = 8
        · have g3 : ((l.length : Int) == 8) = true := by simp [h8]
          have HE : Hid (L = [] ∧ E = 60) := by
            have h2 := H2.out.cut.no HNE.out (.inr h8)
            rw [HR.out] at h2
            simp only [Prod.mk.injEq] at h2
            exact h2
          clear h8
          go_wp2
          go_ret2
          exact ⟨.slice none 0 0, by rw [HE.out.2]; rfl, by rw [HE.out.1]; exact ptown_nil _ _, below_bt H2.out.bel (below_alloc _ _)⟩
        · have g3 : ((l.length : Int) == 8) = false := by simp; omega
          have HNX : Hid (OnCut (numsOf s) (l ++ [⟨pk, pi, pt⟩]) (numsOf (rest.extract nn rest.size)) ∧ (rest.extract nn rest.size).size < rest.size) := by
            have h2 := H2.out.cut.next HCR.out h8
            exact ⟨by rw [HNN.out.1]; exact h2, HNN.out.2⟩
          have hown4 := (H2.out.own.below (below_alloc w2 (.cells #[.int .u8 pk, .int .i64 pi, .string pt] 26))).below (below_alloc _ (.cells #[.int .u8 pk, .int .i64 pi, .string pt] 26))
          have HOW : Hid (PtOwn ((w2.alloc (.cells #[.int .u8 pk, .int .i64 pi, .string pt] 26)).alloc (.cells #[.int .u8 pk, .int .i64 pi, .string pt] 26)) w.heap.size (.slice q l.length m) l) := hown4
          have HBE : Hid (Below w.heap.size w ((w2.alloc (.cells #[.int .u8 pk, .int .i64 pi, .string pt] 26)).alloc (.cells #[.int .u8 pk, .int .i64 pi, .string pt] 26))) := below_bt (below_bt H2.out.bel (below_alloc _ _)) (below_alloc _ _)
          have HCL : Hid (∀ j u, [Value.int .u8 pk, .int .i64 pi, .string pt][j]? = some u → ((w2.alloc (.cells #[.int .u8 pk, .int .i64 pi, .string pt] 26)).alloc (.cells #[.int .u8 pk, .int .i64 pi, .string pt] 26)).cell? ((⟨w2.heap.size + 1, 0, none⟩ : Addr).add j) = some u) := by
            have h := part_cells (w2.alloc (.cells #[.int .u8 pk, .int .i64 pi, .string pt] 26)) (.int .u8 pk) (.int .i64 pi) (.string pt) 26
            rw [show (w2.alloc (.cells #[.int .u8 pk, .int .i64 pi, .string pt] 26)).heap.size = w2.heap.size + 1 by simp] at h
            exact h
          have HL9 : Hid (l.length ≤ 8) := by show _ ≤ _; omega
          clear h8 hown4
          go_wp2_with (at_builtin; go_loud (refine wpList_append_own _ rfl _ _ 28 rfl w.heap.size 26 i0 _ 3 32 Try.underlying28 hi hz0 hz1 hz2 rfl (by omega) _ _ _ rfl HOW.out ⟨w2.heap.size + 1, 0, none⟩ 1 1 [.int .u8 pk, .int .i64 pi, .string pt] rfl rfl HCL.out (part_one pk pi pt) (by have := HL9.out; unfold maxLen; omega) (by have := HL9.out; omega) HBE.out.size ?_); intro va ua hoa hga _)
          have HNW : Hid (OnC w s (rest.extract nn rest.size) (l ++ [⟨pk, pi, pt⟩]) va ua) := by
            refine ⟨?_, HBE.out.grown hga HBE.out.size (fun k hk => (World.ownsRow.lt HOW.out k hk).1), HNX.out.1⟩
            unfold PtOwn
            rw [cellsP_app, List.length_append]
            exact hoa
          clear hoa hga
          go_roundw
          case rel => exact ⟨rest.extract nn rest.size, _, rfl, HNW.out⟩
          case measure => exact HNX.out.2
end Go.Proofs.Ythebnealkekdmaa
