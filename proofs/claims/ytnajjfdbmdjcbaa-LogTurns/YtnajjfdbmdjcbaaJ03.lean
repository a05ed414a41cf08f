/-
  A sector held against the mark that is wanted: part, way by way.
-/
import Derived.Test.YtnajjfdbmdjcbaaJ02
import Derived.Laws.StructEq
namespace Go.Proofs.Ytnajjfdbmdjcbaa
open Go.RowKit Go.WideShapes

def frameR (e s p : Nat) (xs : List Nat) : List Nat × Nat := if e = 0 ∨ s = 0 then ([], 2) else if 4096 < xs.length then ([], 3) else (frameN e s p xs, 0)
structure Framed (w : World) (e s p : Nat) (r : ByteArray) (x : Ending) (w' : World) : Prop where
  is : ∃ v, x = .returned (.tuple #[v, .int .i64 (frameR e s p (numsOf r)).2]) ∧ w'.ownsRow w.heap.size 5 1 v (frameR e s p (numsOf r)).1.length (Bs (frameR e s p (numsOf r)).1)
  bel : Below w.heap.size w w'
theorem framed_bad {w : World} {e s p : Nat} {r : ByteArray} (h : e = 0 ∨ s = 0) : Framed w e s p r (.returned (.tuple #[.slice none 0 0, .int .i64 2])) w := by
  have : frameR e s p (numsOf r) = ([], 2) := by unfold frameR; rw [if_pos h]
  exact ⟨by rw [this]; exact ⟨_, rfl, World.ownsRow_nil _ _ _ _⟩, Below.refl _ _⟩
theorem framed_long {w : World} {e s p : Nat} {r : ByteArray} (h : ¬ (e = 0 ∨ s = 0)) (hl : 4096 < r.size) : Framed w e s p r (.returned (.tuple #[.slice none 0 0, .int .i64 3])) w := by
  have : frameR e s p (numsOf r) = ([], 3) := by unfold frameR; rw [if_neg h, if_pos (by rw [numsOf_len]; exact hl)]
  exact ⟨by rw [this]; exact ⟨_, rfl, World.ownsRow_nil _ _ _ _⟩, Below.refl _ _⟩
theorem framed_ok {w w' : World} {e s p : Nat} {r : ByteArray} {v : Value} (h : ¬ (e = 0 ∨ s = 0)) (hl : r.size ≤ 4096) (ho : w'.ownsRow w.heap.size 5 1 v (frameN e s p (numsOf r)).length (Bs (frameN e s p (numsOf r)))) (hb : Below w.heap.size w w') : Framed w e s p r (.returned (.tuple #[v, .int .i64 0])) w' := by
  have : frameR e s p (numsOf r) = (frameN e s p (numsOf r), 0) := by unfold frameR; rw [if_neg h, if_neg (by rw [numsOf_len]; omega)]
  exact ⟨by rw [this]; exact ⟨_, rfl, ho⟩, hb⟩
theorem beq0 {e : Nat} (h : e ≠ 0) : ((e : Int) == 0) = false := by simp; exact h
theorem Frame_any (e s p : Nat) (r : ByteArray) (w : World) (he : e < 4294967296) (hs : s < 4294967296) (hp : p < 4294967296) (hr : (r.size : Int) ≤ 10000) :
    Calls Try.prog 19 #[.int .u32 e, .int .u32 s, .int .u32 p, .string r] w fun x w' => Framed w e s p r x w' := by
  by_cases h0 : e = 0
  · subst h0
    go_enter Try.func19, Try.ntmps19
    go_wp2
    go_ret2
    exact framed_bad (.inl rfl)
  · have g0 := beq0 h0
    by_cases h1 : s = 0
    · subst h1
      have HH : Hid (e ≠ 0) := h0
      clear h0 he hs hp
      go_enter Try.func19, Try.ntmps19
      go_wp2
      go_ret2
      exact framed_bad (.inr rfl)
    · have g1 := beq0 h1
      have HH : Hid (¬ (e = 0 ∨ s = 0)) := by intro h; rcases h with h | h <;> contradiction
      have HE : Hid (e < 4294967296 ∧ s < 4294967296 ∧ p < 4294967296) := ⟨he, hs, hp⟩
      clear he hs hp h0 h1
      by_cases hl : 4096 < r.size
      · have hlI : (4096 : Int) < r.size := by omega
        have HL : Hid (4096 < r.size) := hl
        clear hl
        go_enter Try.func19, Try.ntmps19
        go_wp2
        go_ret2
        exact framed_long HH.out HL.out
      · have hlI : (r.size : Int) ≤ 4096 := by omega
        have HL : Hid (r.size ≤ 4096) := by show _ ≤ _; omega
        clear hl hr
        go_enter Try.func19, Try.ntmps19
        go_wp2_with (go_at_call 43; refine (frame_any e s p r _ HE.out.1 HE.out.2.1 HE.out.2.2 HL.out).mono ?_; rintro x w1 ⟨v, rfl, ho, hb⟩)
        go_ret2
        exact framed_ok HH.out HL.out ho hb
end Go.Proofs.Ytnajjfdbmdjcbaa
namespace Go.Proofs.Ytnajjfdbmdjcbaa
open Go.RowKit Go.WideShapes

set_option maxRecDepth 8000 in
theorem rneeds_any (m r : Nat) (w : World) (hs : m ≤ 10000) (hr : needsN m = r) :
    Calls Try.prog 50 #[.int .i64 m] w fun e w' => e = .returned (.int .i64 r) ∧ w' = w := by
  have HR : Hid (needsN m = r) := hr
  have k1 : IntKind.i64.wrap ((m : Int) + 112) = (m : Int) + 112 := by rw [IntKind.wrap_i64]; omega
  have k2 : IntKind.i64.wrap ((m : Int) + 112 - 1) = (m : Int) + 112 - 1 := by rw [IntKind.wrap_i64]; omega
  have HS : Hid (m ≤ 10000) := hs
  clear hs hr
  go_enter Try.func50, Try.ntmps50
  go_wp2
  all_goals
    go_ret
    refine ⟨?_, rfl⟩
    rw [← HR.out]
    unfold needsN
    refine ret_int ?_
    have e := needs_div m HS.out
    omega
/-- The first four bytes of a number's eight. -/
theorem rfour_any (n : Nat) (w : World) (hn : n < 4294967296) :
    Calls Try.prog 51 #[.int .u32 n] w fun e w' => ∃ p c, e = .returned (.slice p 4 c) ∧ BIn w' p (le4 n) ∧ (p = none → c = 0) ∧ Below w.heap.size w w' := by
  have hw : IntKind.u64.wrap (n : Int) = n := by rw [IntKind.wrap_u64]; omega
  have HN : Hid (n < 4294967296) := hn
  clear hn
  go_enter Try.func51, Try.ntmps51
  go_wp2_with fail
  refine (refPut_any n _ (by have := HN.out; omega)).mono ?_
  rintro x w1 ⟨v, rfl, ho, hb⟩
  obtain ⟨q, m, rfl, h8, hm, hq⟩ := own_form ho
  have hin := (own_at ho rfl (putN_bytes n (by have := HN.out; omega))).take' 4
  rw [le4_put n HN.out] at hin
  have HI : Hid (BIn w1 q (le4 n)) := hin
  have HB : Hid (Below w.heap.size w w1) := hb
  have HQ : Hid (q = none → m = 0) := hq
  have hmI : (4 : Int) ≤ m := by omega
  have HM8 : Hid (8 ≤ m) := h8
  clear ho hin hb hq hm h8
  obtain ⟨b, o, hqe⟩ := HI.out.addr (by rw [le4_len]; omega)
  subst hqe
  go_wp2
  go_ret
  exact ⟨_, _, rfl, HI.out, (fun h => by cases h), HB.out⟩
theorem number_bytes {a0 a1 a2 a3 : Nat} (h : a0 < 256 ∧ a1 < 256 ∧ a2 < 256 ∧ a3 < 256) : ∀ c ∈ [a0, a1, a2, a3, 0, 0, 0, 0], c < 256 := by
  intro c hc
  simp only [List.mem_cons, List.not_mem_nil, or_false] at hc
  omega
set_option maxRecDepth 8000 in
set_option maxHeartbeats 4000000 in
theorem rnumber_any (p : Option Addr) (xs : List Nat) (n c : Nat) (w : World) (hn : n = xs.length) (h4 : 4 ≤ xs.length) (hb : BIn w p xs) :
    Calls Try.prog 52 #[.slice p n c] w fun e w' => e = .returned (.int .u32 (numAt xs 0 : Nat)) ∧ Below w.heap.size w w' := by
  obtain ⟨b, o, rfl⟩ := hb.addr (by omega)
  obtain ⟨a0, e0⟩ : ∃ a, xs.getD 0 0 = a := ⟨_, rfl⟩
  obtain ⟨a1, e1⟩ : ∃ a, xs.getD 1 0 = a := ⟨_, rfl⟩
  obtain ⟨a2, e2⟩ : ∃ a, xs.getD 2 0 = a := ⟨_, rfl⟩
  obtain ⟨a3, e3⟩ : ∃ a, xs.getD 3 0 = a := ⟨_, rfl⟩
  have c0 : w.cell? ⟨b, o, none⟩ = some (.int .u8 a0) := by have := hb.cell 0 (by omega); rw [e0] at this; exact this
  have c1 : w.cell? ⟨b, o + 1, none⟩ = some (.int .u8 a1) := by have := hb.cell 1 (by omega); rw [e1] at this; exact this
  have c2 : w.cell? ⟨b, o + 2, none⟩ = some (.int .u8 a2) := by have := hb.cell 2 (by omega); rw [e2] at this; exact this
  have c3 : w.cell? ⟨b, o + 3, none⟩ = some (.int .u8 a3) := by have := hb.cell 3 (by omega); rw [e3] at this; exact this
  have H4 : Hid (a0 < 256 ∧ a1 < 256 ∧ a2 < 256 ∧ a3 < 256) := ⟨e0 ▸ getD_lt hb.2 0, e1 ▸ getD_lt hb.2 1, e2 ▸ getD_lt hb.2 2, e3 ▸ getD_lt hb.2 3⟩
  have HV : Hid (joinN a0 a1 a2 a3 0 0 0 0 = numAt xs 0) := by show _ = _; rw [join8]; unfold numAt; rw [e0, e1, e2, e3]
  have HLT : Hid (numAt xs 0 < 4294967296) := numAt_lt hb.2 0
  have n0 : (0 : Int) < n := by omega
  have n0' : 0 < n := by omega
  have n0'' : ¬ n = 0 := by omega
  have HBI : Hid (BIn ((w.alloc (.cells #[.int .u8 a0, .int .u8 a1, .int .u8 a2, .int .u8 a3, .int .u8 0, .int .u8 0, .int .u8 0, .int .u8 0] 5)).drew) (some ⟨w.heap.size, 0, none⟩) [a0, a1, a2, a3, 0, 0, 0, 0]) := (bin_lit w _ _ 5 (0, 0) [a0, a1, a2, a3, 0, 0, 0, 0] rfl (by simp [Bs]) (number_bytes H4.out)).below ((Below.refl _ _).drew)
  have n1 : (1 : Int) < n := by omega
  have n2 : (2 : Int) < n := by omega
  have n3 : (3 : Int) < n := by omega
  clear hb hn h4 e0 e1 e2 e3
  go_enter Try.func52, Try.ntmps52
  go_wp2
  go_region_held3 (fun w' => (w'.cell? ⟨b, o, none⟩ = some (.int .u8 a0) ∧ w'.cell? ⟨b, o + 1, none⟩ = some (.int .u8 a1) ∧ w'.cell? ⟨b, o + 2, none⟩ = some (.int .u8 a2) ∧ w'.cell? ⟨b, o + 3, none⟩ = some (.int .u8 a3)) ∧ Below w.heap.size w w')
    (first | exact ⟨⟨c0, c1, c2, c3⟩, (Below.refl _ _).drew⟩ | (refine ⟨⟨(World.cell?_alloc_lt _ _ _ (World.block_lt_of_cell? _ _ c0)).trans c0, (World.cell?_alloc_lt _ _ _ (World.block_lt_of_cell? _ _ c1)).trans c1, (World.cell?_alloc_lt _ _ _ (World.block_lt_of_cell? _ _ c2)).trans c2, (World.cell?_alloc_lt _ _ _ (World.block_lt_of_cell? _ _ c3)).trans c3⟩, ((Below.refl _ _).drew).alloc (Nat.le_refl _) _⟩) | assumption)
    (first | (go_at_call 68; refine (refGet_ok (some ⟨w.heap.size, 0, none⟩) 8 a0 a1 a2 a3 0 0 0 0 _ HBI.out).mono ?_; rintro e w1 ⟨rfl, rfl⟩) | fail)
  rename_i hh
  have hbe := hh.2
  have HBE : Hid _ := hbe
  clear hh hbe
  rw [HV.out]
  go_wp2
  go_ret
  refine ⟨?_, HBE.out⟩
  have := HLT.out
  exact ret_int (by omega)
end Go.Proofs.Ytnajjfdbmdjcbaa
namespace Go.Proofs.Ytnajjfdbmdjcbaa
open Go.RowKit Go.WideShapes

theorem St.appStr {w : World} {bx : List Box} {wc w2 : World} {v v2 : Value} {xs : List Nat} {s : ByteArray} (h : St w bx wc v xs) (ho : w2.ownsRow w.heap.size 5 1 v2 (xs.length + s.size) (Bs xs ++ Lib.strCells s)) (hg : wc.grownBy w2 v.ownBlock) : St w bx w2 v2 (xs ++ numsOf s) := by
  refine h.app ?_ hg
  rw [List.length_append, numsOf_len, Bs_app, ← strCells_Bs]
  exact ho
def lenV : Value → Nat
  | .slice _ n _ => n
  | _ => 0
def onWay (e s p n k : Nat) (r : List Nat) (z : Nat) : List Nat := framesK e s p n r k ++ (markL e s p k n (pieceL r k).length ++ (pieceL r k ++ List.replicate z 0))
theorem onWay_len (e s p n k : Nat) (r : List Nat) (z : Nat) : (onWay e s p n k r z).length = k * 128 + 16 + (pieceL r k).length + z := by
  unfold onWay; rw [List.length_append, framesK_len, List.length_append, markL_len, List.length_append, List.length_replicate]; omega
theorem onWay_snoc (e s p n k : Nat) (r : List Nat) (z : Nat) : onWay e s p n k r z ++ [0] = onWay e s p n k r (z + 1) := by
  unfold onWay; rw [List.replicate_succ']; simp only [List.append_assoc]
theorem onWay_full (e s p n k : Nat) (r : List Nat) (z : Nat) (h : (pieceL r k).length + z = 112) : onWay e s p n k r z = framesK e s p n r (k + 1) := by
  rw [framesK_snoc]; unfold onWay secL; rw [show 112 - (pieceL r k).length = z by omega]
theorem onWay_zero (e s p n k : Nat) (r : List Nat) (h1 : k < 256) (h2 : n < 256) (pl : Nat) (hp : (pieceL r k).length = pl) (h3 : pl ≤ 112) : framesK e s p n r k ++ le4 e ++ le4 s ++ le4 p ++ [k, n, pl % 256, pl / 256] ++ pieceL r k = onWay e s p n k r 0 := by
  unfold onWay markL
  rw [hp, show k % 256 = k by omega, show n % 256 = n by omega, show pl / 256 % 256 = pl / 256 by omega]
  simp only [List.append_assoc, List.replicate_zero, List.append_nil]
set_option maxRecDepth 8000 in
set_option maxHeartbeats 4000000 in
theorem rframe_ok (e s p : Nat) (r : ByteArray) (w : World) (he : e < 4294967296) (hs : s < 4294967296) (hp : p < 4294967296) (hr : r.size ≤ 4096) (h0 : ¬ (e = 0 ∨ s = 0)) :
    Calls Try.prog 20 #[.int .u32 e, .int .u32 s, .int .u32 p, .string r] w fun x w' => Framed w e s p r x w' := by
  obtain ⟨i0, hi, hz0, hz1, hz2⟩ := info_parts info5
  have g0 : ((e : Int) == 0) = false := beq0 (fun h => h0 (.inl h))
  have g1 : ((s : Int) == 0) = false := beq0 (fun h => h0 (.inr h))
  have HH : Hid (¬ (e = 0 ∨ s = 0)) := h0
  have HE : Hid (e < 4294967296 ∧ s < 4294967296 ∧ p < 4294967296) := ⟨he, hs, hp⟩
  have HR : Hid (r.size ≤ 4096) := hr
  have hrI : (r.size : Int) ≤ 4096 := by omega
  obtain ⟨n, hn⟩ : ∃ n, needsN r.size = n := ⟨_, rfl⟩
  have HN : Hid (needsN r.size = n) := hn
  have hn37 : (n : Int) ≤ 200 := by have := needsN_le hr; omega
  clear he hs hp hr hn h0
  go_enter Try.func20, Try.ntmps20
  go_wp2_with (go_at_call 50; refine (rneeds_any r.size n _ (by have := HR.out; omega) HN.out).mono ?_; rintro x w1 ⟨rfl, rfl⟩)
  go_loopw [10, 12] (fun m i wr => ∃ k : Nat, k ≤ n ∧ i = .int .i64 k ∧ St w1 [] wr m (framesK e s p n (numsOf r) k)) (fun _ i _ => n - (intOf i).toNat)
  case atStart => exact ⟨0, by omega, rfl, St.start (fun p hp => by simp at hp)⟩
  case round =>
    obtain ⟨k, hk, rfl, hst⟩ := hrel
    have HS : Hid _ := hst
    clear hst
    by_cases hkn : k < n
    · have hkI : (k : Int) < (n : Int) := by omega
      have HFL : Hid ((framesK e s p n (numsOf r) k).length ≤ 30000) := by show _ ≤ _; rw [framesK_len]; omega
      have k1 : IntKind.i64.wrap ((k : Int) * 112) = (k : Int) * 112 := by rw [IntKind.wrap_i64]; omega
      have k2 : IntKind.i64.wrap ((k : Int) * 112 + 112) = (k : Int) * 112 + 112 := by rw [IntKind.wrap_i64]; omega
      have hlo : (k : Int) * 112 ≤ (r.size : Int) := by have := HN.out; unfold needsN at this; omega
      by_cases hfull : r.size ≤ k * 112 + 112
      · have g2 : (r.size : Int) ≤ (k : Int) * 112 + 112 := by omega
        go_wp2_with fail
        refine (rfour_any e _ HE.out.1).mono ?_
        rintro x w5 ⟨q5, m5, rfl, hi5, hq5, hb5⟩
        generalize hps : r.extract (k * 112) r.size = ps
        have HX : Hid (numsOf ps = pieceL (numsOf r) k ∧ ps.size ≤ 112) := by
          have e1 : numsOf ps = pieceL (numsOf r) k := by rw [← hps, ← strPiece_nums]; unfold strPiece; rw [Nat.min_eq_right (by omega)]
          exact ⟨e1, by rw [← numsOf_len, e1]; exact pieceL_le _ _⟩
        clear hps k1 k2 hlo hfull g2
        have s5 := HS.out.call hb5
        have HS5 : Hid _ := s5
        have hz5 := s5.size
        have HI5 : Hid (BIn w5 q5 (le4 e)) := hi5
        clear s5 HS hi5 hb5
        go_wp2_with (at_builtin; refine wpList_append_bytes _ rfl _ _ rfl w1.heap.size _ _ (le4 e) q5 _ m5 rfl rfl rfl HS5.out.own HI5.out hq5 (by have := HFL.out; have := le4_len e; have := le4_len e; omega) hz5 ?_; intro v5 u5 ho5 hg5; have t5 := HS5.out.app ho5 hg5)
        have HT1 : Hid _ := t5
        clear t5 ho5 hg5 HS5 HI5 hq5
        go_wp2_with fail
        refine (rfour_any s _ HE.out.2.1).mono ?_
        rintro x w6 ⟨q6, m6, rfl, hi6, hq6, hb6⟩
        have s6 := HT1.out.call hb6
        have HS6 : Hid _ := s6
        have hz6 := s6.size
        have HI6 : Hid (BIn w6 q6 (le4 s)) := hi6
        clear s6 HT1 hi6 hb6
        go_wp2_with (at_builtin; refine wpList_append_bytes _ rfl _ _ rfl w1.heap.size _ _ (le4 s) q6 _ m6 rfl rfl rfl HS6.out.own HI6.out hq6 (by rw [List.length_append]; have := HFL.out; have := le4_len s; have := le4_len e; omega) hz6 ?_; intro v6 u6 ho6 hg6; have t6 := HS6.out.app ho6 hg6)
        have HT2 : Hid _ := t6
        clear t6 ho6 hg6 HS6 HI6 hq6
        have hplI : (ps.size : Int) ≤ 112 := by have := HX.out.2; omega
        have b1 : IntKind.u8.wrap (k : Int) = k := by rw [IntKind.wrap_u8']; omega
        have b2 : IntKind.u8.wrap (n : Int) = n := by rw [IntKind.wrap_u8']; omega
        go_wp2_with fail
        refine (rfour_any p _ HE.out.2.2).mono ?_
        rintro x w7 ⟨q7, m7, rfl, hi7, hq7, hb7⟩
        have s7 := HT2.out.call hb7
        have HS7 : Hid _ := s7
        have hz7 := s7.size
        have HI7 : Hid (BIn w7 q7 (le4 p)) := hi7
        clear s7 HT2 hi7 hb7
        go_wp2_with (first
          | (at_builtin; refine wpList_append_bytes _ rfl _ _ rfl w1.heap.size _ _ (le4 p) q7 _ m7 rfl rfl rfl HS7.out.own HI7.out hq7 (by simp only [List.length_append, le4_len]; have := HFL.out; omega) hz7 ?_; intro v7 u7 ho7 hg7; have t7 := HS7.out.app ho7 hg7; have s8 := t7.call (below_alloc u7 (.cells #[.int .u8 k, .int .u8 n, .int .u8 ((ps.size : Int) % 256), .int .u8 ((ps.size : Int) / 256)] 5)); have hz8 := s8.size; have HS8 : Hid _ := s8; have HI8 : Hid (BIn (u7.alloc (.cells #[.int .u8 k, .int .u8 n, .int .u8 ((ps.size : Int) % 256), .int .u8 ((ps.size : Int) / 256)] 5)) (some ⟨u7.heap.size, 0, none⟩) [k, n, ps.size % 256, ps.size / 256]) := bin_lit u7 _ _ 5 (0, 0) _ rfl (by simp [Bs]) (by intro c hc; simp only [List.mem_cons, List.not_mem_nil, or_false] at hc; omega); clear s8 t7 ho7 hg7 HS7 HI7 hq7)
          | (at_builtin; refine wpList_append_bytes _ rfl _ _ rfl w1.heap.size _ _ [k, n, ps.size % 256, ps.size / 256] (some ⟨u7.heap.size, 0, none⟩) _ 4 rfl rfl rfl HS8.out.own HI8.out (fun h => by cases h) (by simp only [List.length_append, le4_len, List.length_cons, List.length_nil]; have := HFL.out; omega) hz8 ?_; intro v8 u8 ho8 hg8; have t8 := HS8.out.app ho8 hg8; have HS9 : Hid _ := t8; have hz9 := t8.size; clear t8 ho8 hg8 HS8 HI8)
          | (at_builtin; refine Lib.wpList_append_own_string _ rfl _ _ 22 9 rfl w1.heap.size 5 i0 Try.underlying22 Try.underlying9 hi hz0 hz1 hz2 _ _ _ rfl HS9.out.own ps rfl (by unfold maxLen; simp only [List.length_append, le4_len, List.length_cons, List.length_nil]; have := HFL.out; omega) (by simp only [List.length_append, le4_len, List.length_cons, List.length_nil]; have := HFL.out; omega) hz9 ?_; intro v9 u9 ho9 hg9 _; have t9 := HS9.out.appStr ho9 hg9; have HT9 : Hid _ := t9; clear t9 ho9 hg9 HS9))
        have h9 := HT9.out.eq (show _ = onWay e s p n k (numsOf r) 0 by rw [HX.out.1]; exact onWay_zero e s p n k (numsOf r) (by omega) (by omega) ps.size (by rw [← HX.out.1, numsOf_len]) HX.out.2)
        have HP : Hid ((pieceL (numsOf r) k).length ≤ 112) := pieceL_le _ _
        clear HT9
        go_loopw [10] (fun m wr => ∃ z, (pieceL (numsOf r) k).length + z ≤ 112 ∧ St w1 [] wr m (onWay e s p n k (numsOf r) z)) (fun m _ => 100000 - lenV m)
        case atStart => exact ⟨0, by have := HP.out; omega, h9⟩
        case round =>
          clear h9
          obtain ⟨z, hz, hst⟩ := hrel
          obtain ⟨q10, m10, rfl, hlc, hmx, hqn⟩ := own_form hst.own
          have HST : Hid (St w1 [] wr (.slice q10 (onWay e s p n k (numsOf r) z).length m10) (onWay e s p n k (numsOf r) z)) := hst
          have HOL : Hid ((onWay e s p n k (numsOf r) z).length = k * 128 + 16 + (pieceL (numsOf r) k).length + z) := onWay_len _ _ _ _ _ _ _
          have HZ : Hid ((pieceL (numsOf r) k).length + z ≤ 112) := hz
          have HLL : Hid ((onWay e s p n k (numsOf r) z).length ≤ 40000) := by have := HOL.out; show _ ≤ _; omega
          have hLI : ((onWay e s p n k (numsOf r) z).length : Int) ≤ 1000000 := by have := HLL.out; omega
          clear hst hlc hmx hqn
          by_cases hd : (pieceL (numsOf r) k).length + z = 112
          · have HF : Hid (St w1 [] wr (.slice q10 (onWay e s p n k (numsOf r) z).length m10) (framesK e s p n (numsOf r) (k + 1))) := HST.out.eq (onWay_full e s p n k (numsOf r) z hd)
            have hr0 : ((onWay e s p n k (numsOf r) z).length : Int) % 128 = 0 := by have := HOL.out; omega
            have hr1 : ((onWay e s p n k (numsOf r) z).length : Int).tmod 128 = 0 := by rw [Int.tmod_eq_emod_of_nonneg (by omega)]; exact hr0
            clear hz HOL hd HST
            generalize (onWay e s p n k (numsOf r) z).length = L at *
            go_wp2
            go_roundw
            case rel => exact ⟨k + 1, by omega, by go_num, HF.out⟩
            case measure => simp [intOf]; omega
          · have hr0 : (((onWay e s p n k (numsOf r) z).length : Int) % 128 == 0) = false := by have := HOL.out; simp; omega
            have hr1 : (((onWay e s p n k (numsOf r) z).length : Int).tmod 128 == 0) = false := by rw [Int.tmod_eq_emod_of_nonneg (by omega)]; exact hr0
            have hr2 : ¬ ((onWay e s p n k (numsOf r) z).length : Int) % 128 = 0 := by have := HOL.out; omega
            have HD : Hid (¬ (pieceL (numsOf r) k).length + z = 112) := hd
            have sa := HST.out.call (below_alloc wr (.cells #[.int .u8 0] 5))
            have HSA : Hid _ := sa
            have hza := sa.size
            have HIA : Hid (BIn (wr.alloc (.cells #[.int .u8 0] 5)) (some ⟨wr.heap.size, 0, none⟩) [0]) := bin_lit wr _ _ 5 (0, 0) [0] rfl (by simp [Bs]) (by simp)
            clear hz sa HST hd
            go_wp2_with (at_builtin; go_loud (refine wpList_append_bytes _ rfl _ _ rfl w1.heap.size _ _ [0] (some ⟨wr.heap.size, 0, none⟩) _ 1 rfl rfl rfl HSA.out.own HIA.out (fun h => by cases h) (by have := HLL.out; simp only [List.length_cons, List.length_nil]; omega) hza ?_); intro va ua hoa hga; have ta := (HSA.out.app hoa hga).eq (onWay_snoc e s p n k (numsOf r) z); obtain ⟨qa, ma, rfl, _, _, _⟩ := own_form ta.own; have HTA : Hid _ := ta; clear ta hoa hga)
            go_roundw
            case rel => exact ⟨z + 1, by have := HZ.out; have := HD.out; omega, HTA.out⟩
            case measure =>
              have h1 := HOL.out
              have h2 := onWay_len e s p n k (numsOf r) (z + 1)
              have h3 := HLL.out
              simp only [lenV]
              omega
      · have g2 : (k : Int) * 112 + 112 < (r.size : Int) := by omega
        have tn : ((k : Int) * 112 + 112).toNat = k * 112 + 112 := by omega
        go_wp2_with fail
        refine (rfour_any e _ HE.out.1).mono ?_
        rintro x w5 ⟨q5, m5, rfl, hi5, hq5, hb5⟩
        generalize hps : r.extract (k * 112) (k * 112 + 112) = ps
        have HX : Hid (numsOf ps = pieceL (numsOf r) k ∧ ps.size ≤ 112) := by
          have e1 : numsOf ps = pieceL (numsOf r) k := by rw [← hps, ← strPiece_nums]; unfold strPiece; rw [show (k + 1) * 112 = k * 112 + 112 by omega, Nat.min_eq_left (by omega)]
          exact ⟨e1, by rw [← numsOf_len, e1]; exact pieceL_le _ _⟩
        clear hps k1 k2 hlo hfull g2
        have s5 := HS.out.call hb5
        have HS5 : Hid _ := s5
        have hz5 := s5.size
        have HI5 : Hid (BIn w5 q5 (le4 e)) := hi5
        clear s5 HS hi5 hb5
        go_wp2_with (at_builtin; refine wpList_append_bytes _ rfl _ _ rfl w1.heap.size _ _ (le4 e) q5 _ m5 rfl rfl rfl HS5.out.own HI5.out hq5 (by have := HFL.out; have := le4_len e; have := le4_len e; omega) hz5 ?_; intro v5 u5 ho5 hg5; have t5 := HS5.out.app ho5 hg5)
        have HT1 : Hid _ := t5
        clear t5 ho5 hg5 HS5 HI5 hq5
        go_wp2_with fail
        refine (rfour_any s _ HE.out.2.1).mono ?_
        rintro x w6 ⟨q6, m6, rfl, hi6, hq6, hb6⟩
        have s6 := HT1.out.call hb6
        have HS6 : Hid _ := s6
        have hz6 := s6.size
        have HI6 : Hid (BIn w6 q6 (le4 s)) := hi6
        clear s6 HT1 hi6 hb6
        go_wp2_with (at_builtin; refine wpList_append_bytes _ rfl _ _ rfl w1.heap.size _ _ (le4 s) q6 _ m6 rfl rfl rfl HS6.out.own HI6.out hq6 (by rw [List.length_append]; have := HFL.out; have := le4_len s; have := le4_len e; omega) hz6 ?_; intro v6 u6 ho6 hg6; have t6 := HS6.out.app ho6 hg6)
        have HT2 : Hid _ := t6
        clear t6 ho6 hg6 HS6 HI6 hq6
        have hplI : (ps.size : Int) ≤ 112 := by have := HX.out.2; omega
        have b1 : IntKind.u8.wrap (k : Int) = k := by rw [IntKind.wrap_u8']; omega
        have b2 : IntKind.u8.wrap (n : Int) = n := by rw [IntKind.wrap_u8']; omega
        go_wp2_with fail
        refine (rfour_any p _ HE.out.2.2).mono ?_
        rintro x w7 ⟨q7, m7, rfl, hi7, hq7, hb7⟩
        have s7 := HT2.out.call hb7
        have HS7 : Hid _ := s7
        have hz7 := s7.size
        have HI7 : Hid (BIn w7 q7 (le4 p)) := hi7
        clear s7 HT2 hi7 hb7
        go_wp2_with (first
          | (at_builtin; refine wpList_append_bytes _ rfl _ _ rfl w1.heap.size _ _ (le4 p) q7 _ m7 rfl rfl rfl HS7.out.own HI7.out hq7 (by simp only [List.length_append, le4_len]; have := HFL.out; omega) hz7 ?_; intro v7 u7 ho7 hg7; have t7 := HS7.out.app ho7 hg7; have s8 := t7.call (below_alloc u7 (.cells #[.int .u8 k, .int .u8 n, .int .u8 ((ps.size : Int) % 256), .int .u8 ((ps.size : Int) / 256)] 5)); have hz8 := s8.size; have HS8 : Hid _ := s8; have HI8 : Hid (BIn (u7.alloc (.cells #[.int .u8 k, .int .u8 n, .int .u8 ((ps.size : Int) % 256), .int .u8 ((ps.size : Int) / 256)] 5)) (some ⟨u7.heap.size, 0, none⟩) [k, n, ps.size % 256, ps.size / 256]) := bin_lit u7 _ _ 5 (0, 0) _ rfl (by simp [Bs]) (by intro c hc; simp only [List.mem_cons, List.not_mem_nil, or_false] at hc; omega); clear s8 t7 ho7 hg7 HS7 HI7 hq7)
          | (at_builtin; refine wpList_append_bytes _ rfl _ _ rfl w1.heap.size _ _ [k, n, ps.size % 256, ps.size / 256] (some ⟨u7.heap.size, 0, none⟩) _ 4 rfl rfl rfl HS8.out.own HI8.out (fun h => by cases h) (by simp only [List.length_append, le4_len, List.length_cons, List.length_nil]; have := HFL.out; omega) hz8 ?_; intro v8 u8 ho8 hg8; have t8 := HS8.out.app ho8 hg8; have HS9 : Hid _ := t8; have hz9 := t8.size; clear t8 ho8 hg8 HS8 HI8)
          | (at_builtin; refine Lib.wpList_append_own_string _ rfl _ _ 22 9 rfl w1.heap.size 5 i0 Try.underlying22 Try.underlying9 hi hz0 hz1 hz2 _ _ _ rfl HS9.out.own ps rfl (by unfold maxLen; simp only [List.length_append, le4_len, List.length_cons, List.length_nil]; have := HFL.out; omega) (by simp only [List.length_append, le4_len, List.length_cons, List.length_nil]; have := HFL.out; omega) hz9 ?_; intro v9 u9 ho9 hg9 _; have t9 := HS9.out.appStr ho9 hg9; have HT9 : Hid _ := t9; clear t9 ho9 hg9 HS9))
        have h9 := HT9.out.eq (show _ = onWay e s p n k (numsOf r) 0 by rw [HX.out.1]; exact onWay_zero e s p n k (numsOf r) (by omega) (by omega) ps.size (by rw [← HX.out.1, numsOf_len]) HX.out.2)
        have HP : Hid ((pieceL (numsOf r) k).length ≤ 112) := pieceL_le _ _
        clear HT9
        go_loopw [10] (fun m wr => ∃ z, (pieceL (numsOf r) k).length + z ≤ 112 ∧ St w1 [] wr m (onWay e s p n k (numsOf r) z)) (fun m _ => 100000 - lenV m)
        case atStart => exact ⟨0, by have := HP.out; omega, h9⟩
        case round =>
          clear h9
          obtain ⟨z, hz, hst⟩ := hrel
          obtain ⟨q10, m10, rfl, hlc, hmx, hqn⟩ := own_form hst.own
          have HST : Hid (St w1 [] wr (.slice q10 (onWay e s p n k (numsOf r) z).length m10) (onWay e s p n k (numsOf r) z)) := hst
          have HOL : Hid ((onWay e s p n k (numsOf r) z).length = k * 128 + 16 + (pieceL (numsOf r) k).length + z) := onWay_len _ _ _ _ _ _ _
          have HZ : Hid ((pieceL (numsOf r) k).length + z ≤ 112) := hz
          have HLL : Hid ((onWay e s p n k (numsOf r) z).length ≤ 40000) := by have := HOL.out; show _ ≤ _; omega
          have hLI : ((onWay e s p n k (numsOf r) z).length : Int) ≤ 1000000 := by have := HLL.out; omega
          clear hst hlc hmx hqn
          by_cases hd : (pieceL (numsOf r) k).length + z = 112
          · have HF : Hid (St w1 [] wr (.slice q10 (onWay e s p n k (numsOf r) z).length m10) (framesK e s p n (numsOf r) (k + 1))) := HST.out.eq (onWay_full e s p n k (numsOf r) z hd)
            have hr0 : ((onWay e s p n k (numsOf r) z).length : Int) % 128 = 0 := by have := HOL.out; omega
            have hr1 : ((onWay e s p n k (numsOf r) z).length : Int).tmod 128 = 0 := by rw [Int.tmod_eq_emod_of_nonneg (by omega)]; exact hr0
            clear hz HOL hd HST
            generalize (onWay e s p n k (numsOf r) z).length = L at *
            go_wp2
            go_roundw
            case rel => exact ⟨k + 1, by omega, by go_num, HF.out⟩
            case measure => simp [intOf]; omega
          · have hr0 : (((onWay e s p n k (numsOf r) z).length : Int) % 128 == 0) = false := by have := HOL.out; simp; omega
            have hr1 : (((onWay e s p n k (numsOf r) z).length : Int).tmod 128 == 0) = false := by rw [Int.tmod_eq_emod_of_nonneg (by omega)]; exact hr0
            have hr2 : ¬ ((onWay e s p n k (numsOf r) z).length : Int) % 128 = 0 := by have := HOL.out; omega
            have HD : Hid (¬ (pieceL (numsOf r) k).length + z = 112) := hd
            have sa := HST.out.call (below_alloc wr (.cells #[.int .u8 0] 5))
            have HSA : Hid _ := sa
            have hza := sa.size
            have HIA : Hid (BIn (wr.alloc (.cells #[.int .u8 0] 5)) (some ⟨wr.heap.size, 0, none⟩) [0]) := bin_lit wr _ _ 5 (0, 0) [0] rfl (by simp [Bs]) (by simp)
            clear hz sa HST hd
            go_wp2_with (at_builtin; go_loud (refine wpList_append_bytes _ rfl _ _ rfl w1.heap.size _ _ [0] (some ⟨wr.heap.size, 0, none⟩) _ 1 rfl rfl rfl HSA.out.own HIA.out (fun h => by cases h) (by have := HLL.out; simp only [List.length_cons, List.length_nil]; omega) hza ?_); intro va ua hoa hga; have ta := (HSA.out.app hoa hga).eq (onWay_snoc e s p n k (numsOf r) z); obtain ⟨qa, ma, rfl, _, _, _⟩ := own_form ta.own; have HTA : Hid _ := ta; clear ta hoa hga)
            go_roundw
            case rel => exact ⟨z + 1, by have := HZ.out; have := HD.out; omega, HTA.out⟩
            case measure =>
              have h1 := HOL.out
              have h2 := onWay_len e s p n k (numsOf r) (z + 1)
              have h3 := HLL.out
              simp only [lenV]
              omega
    · obtain rfl : k = n := by omega
      go_wp2
      go_ret2
      have h := HS.out.eq (show framesK e s p k (numsOf r) k = frameN e s p (numsOf r) by unfold frameN; rw [numsOf_len, HN.out])
      exact framed_ok HH.out HR.out h.own h.bel
set_option maxRecDepth 8000 in
theorem rFrame_any (e s p : Nat) (r : ByteArray) (w : World) (he : e < 4294967296) (hs : s < 4294967296) (hp : p < 4294967296) (hr : (r.size : Int) ≤ 40000) :
    Calls Try.prog 20 #[.int .u32 e, .int .u32 s, .int .u32 p, .string r] w fun x w' => Framed w e s p r x w' := by
  by_cases h0 : e = 0
  · subst h0
    clear he hs hp
    go_enter Try.func20, Try.ntmps20
    go_wp2
    go_ret2
    exact framed_bad (.inl rfl)
  · have g0 := beq0 h0
    by_cases h1 : s = 0
    · subst h1
      clear h0 he hs hp
      go_enter Try.func20, Try.ntmps20
      go_wp2
      go_ret2
      exact framed_bad (.inr rfl)
    · have g1 := beq0 h1
      have HH : Hid (¬ (e = 0 ∨ s = 0)) := by intro h; rcases h with h | h <;> contradiction
      by_cases hl : 4096 < r.size
      · have hlI : (4096 : Int) < r.size := by omega
        have HL : Hid (4096 < r.size) := hl
        clear hl h0 h1 he hs hp
        go_enter Try.func20, Try.ntmps20
        go_wp2
        go_ret2
        exact framed_long HH.out HL.out
      · exact rframe_ok e s p r w he hs hp (by omega) HH.out
end Go.Proofs.Ytnajjfdbmdjcbaa
namespace Go.Proofs.Ytnajjfdbmdjcbaa
open Go.RowKit Go.WideShapes

abbrev OpenT := ByteArray × Nat × Nat × Nat
open Classical in
noncomputable def openR (e p : Nat) (xs : List Nat) : OpenT :=
  if e = 0 then (ByteArray.empty, 0, 0, 2)
  else if h : ∃ y : Nat × List Nat, IsRec e p xs y.1 y.2 then (strOf (Classical.choose h).2, (Classical.choose h).1, needsN (Classical.choose h).2.length, 0)
  else (ByteArray.empty, 0, 0, 0)
def openE (r : OpenT) : Value := .tuple #[.string r.1, .int .u32 r.2.1, .int .i64 r.2.2.1, .int .i64 r.2.2.2]
theorem openR_zero (p : Nat) (xs : List Nat) : openR 0 p xs = (ByteArray.empty, 0, 0, 2) := by unfold openR; rw [if_pos rfl]
theorem openR_yes {e p s : Nat} {xs r : List Nat} (he0 : e ≠ 0) (he : e < 4294967296) (hp : p < 4294967296) (h : IsRec e p xs s r) : openR e p xs = (strOf r, s, needsN r.length, 0) := by
  have hx : ∃ y : Nat × List Nat, IsRec e p xs y.1 y.2 := ⟨(s, r), h⟩
  unfold openR
  rw [if_neg he0, dif_pos hx]
  obtain ⟨h1, h2⟩ := rec_only he hp (Classical.choose_spec hx) h
  rw [h1, h2]
theorem openR_no {e p : Nat} {xs : List Nat} (he0 : e ≠ 0) (h : ∀ s r, ¬ IsRec e p xs s r) : openR e p xs = (ByteArray.empty, 0, 0, 0) := by
  unfold openR
  rw [if_neg he0, dif_neg (fun hx => by obtain ⟨y, hy⟩ := hx; exact h _ _ hy)]
/-! ### No record -/
theorem no_short {e p : Nat} {xs : List Nat} (h : xs.length < 128) : ∀ s r, ¬ IsRec e p xs s r := fun s r hr => by
  have h1 := rec_len hr
  have h2 := needsN_pos r.length
  omega
theorem no_head {e p : Nat} {xs : List Nat} (he : e < 4294967296) (hp : p < 4294967296) (h : numAt xs 4 = 0 ∨ xs.getD 13 0 = 0 ∨ xs.length < xs.getD 13 0 * 128) : ∀ s r, ¬ IsRec e p xs s r := fun s r hr => by
  obtain ⟨h1, h2, _, _⟩ := rec_dec he hp hr
  have h3 := rec_len hr
  have h4 := needsN_pos r.length
  have h5 := hr.salt0
  rw [h1, h2] at h
  omega
theorem no_sec {e p n k : Nat} {xs : List Nat} (he : e < 4294967296) (hp : p < 4294967296) (hn : xs.getD 13 0 = n) (hk : k < n) (h : ∀ s, ¬ OkSec e s p k n (secAt xs k)) : ∀ s r, ¬ IsRec e p xs s r := fun s r hr => by
  obtain ⟨h1, h2, _, h4⟩ := rec_dec he hp hr
  rw [hn] at h2
  subst h2
  exact h s (h4 k hk)
theorem no_long {e p n : Nat} {xs : List Nat} (he : e < 4294967296) (hp : p < 4294967296) (hn : xs.getD 13 0 = n) (h : 4096 < (decK xs n).length) : ∀ s r, ¬ IsRec e p xs s r := fun s r hr => by
  obtain ⟨h1, h2, h3, _⟩ := rec_dec he hp hr
  rw [hn] at h2
  subst h2
  rw [h3] at h
  have := hr.len
  omega
theorem no_other {e p n : Nat} {xs : List Nat} (he : e < 4294967296) (hp : p < 4294967296) (hn : xs.getD 13 0 = n) (h : ¬ frameN e (numAt xs 4) p (decK xs n) = xs.take (n * 128)) : ∀ s r, ¬ IsRec e p xs s r := fun s r hr => by
  obtain ⟨h1, h2, h3, _⟩ := rec_dec he hp hr
  rw [hn] at h2
  subst h2
  rw [h3, h1] at h
  exact h hr.pre.symm
theorem yes_other {e p n : Nat} {xs : List Nat} (hb : ∀ c ∈ xs, c < 256) (hs : numAt xs 4 ≠ 0) (hl : n * 128 ≤ xs.length) (hd : (decK xs n).length ≤ 4096) (h : frameN e (numAt xs 4) p (decK xs n) = xs.take (n * 128)) : IsRec e p xs (numAt xs 4) (decK xs n) ∧ needsN (decK xs n).length = n := by
  have hn : needsN (decK xs n).length = n := by
    have := congrArg List.length h
    rw [frameN_len, List.length_take] at this
    omega
  exact ⟨⟨hs, numAt_lt hb 4, hd, decK_byte hb n, by rw [hn]; exact h.symm⟩, hn⟩
theorem nums_strOf {xs : List Nat} (h : ∀ c ∈ xs, c < 256) : numsOf (strOf xs) = xs := by
  unfold numsOf
  rw [strOf_list, List.map_map]
  conv => rhs; rw [← List.map_id xs]
  apply List.map_congr_left
  intro c hc
  have := h c hc
  simp; omega
theorem sec_getD (xs : List Nat) (k j : Nat) (hj : j < 128) : (secAt xs k).getD j 0 = xs.getD (k * 128 + j) 0 := by
  simp [secAt, List.getD, hj]
theorem numAt_sec0 (xs : List Nat) : numAt (xs.drop 4) 0 = numAt xs 4 := numAt_drop xs 4
theorem results_tmp4 {fn : Func} {t u v x : Tmp} (h : fn.results = #[.tmp t, .tmp u, .tmp v, .tmp x]) (tmps : Array Value) (P : Program) (w : World) :
    (results fn tmps).run P w = .ok (.tuple #[tmps.getD t undef, tmps.getD u undef, tmps.getD v undef, tmps.getD x undef]) w := by
  simp [results, h]
theorem conv_at {w : World} {p : Option Addr} {xs : List Nat} {n c : Nat} (h : BIn w p xs) (hn : n = xs.length) : (convert 22 9 (.slice p n c)).run Try.prog w = .ok (.string (strOf xs)) w := bin_conv Try.underlying22 Try.underlying5 Try.underlying9 h hn c
end Go.Proofs.Ytnajjfdbmdjcbaa
namespace Go.Proofs.Ytnajjfdbmdjcbaa
open Go.RowKit Go.WideShapes

theorem below_dr (w : World) (n : Nat) : Below w.heap.size w (w.drewN n) := ⟨rfl, rfl, rfl, Nat.le_refl _, fun _ _ => rfl⟩
theorem ret_zero {e p : Nat} {xs : List Nat} {R : OpenT} (he0 : e ≠ 0) (h : ∀ s r, ¬ IsRec e p xs s r) (hR : openR e p xs = R) : Ending.returned (.tuple #[.string ByteArray.empty, .int .u32 0, .int .i64 0, .int .i64 0]) = .returned (openE R) := by
  rw [← hR, openR_no he0 h]; rfl
theorem ret_rec {e p s n : Nat} {xs r : List Nat} {R : OpenT} (he0 : e ≠ 0) (he : e < 4294967296) (hp : p < 4294967296) (h : IsRec e p xs s r) (hn : needsN r.length = n) (hR : openR e p xs = R) : Ending.returned (.tuple #[.string (strOf r), .int .u32 s, .int .i64 n, .int .i64 0]) = .returned (openE R) := by
  rw [← hR, openR_yes he0 he hp h, ← hn]; rfl
theorem strs_eq {xs ys : List Nat} (hx : ∀ c ∈ xs, c < 256) (hy : ∀ c ∈ ys, c < 256) : ((strOf xs).toList == (strOf ys).toList) = decide (xs = ys) := by
  rw [ByteArray.toList_eq, ByteArray.toList_eq]
  by_cases h : xs = ys
  · subst h; simp
  · simp only [h, decide_false]
    exact beq_eq_false_iff_ne.2 (fun e => h ((strOf_eq hx hy).1 e))
theorem body_in {w : World} {b o k z : Nat} {xs : List Nat} (h : BIn w (some ⟨b, o, none⟩) xs) (hz : sizeOf2 (secAt xs k) = z) : BIn w (some ⟨b, o + k * 128 + 16, none⟩) (bodyOf (secAt xs k)) := by
  have := (((h.drop' (k * 128)).take' 128).drop' 16).take' z
  unfold bodyOf
  rw [hz]
  exact this
theorem body_len {xs : List Nat} {k z : Nat} (hl : (k + 1) * 128 ≤ xs.length) (hz : sizeOf2 (secAt xs k) = z) (hz1 : z ≤ 112) : (bodyOf (secAt xs k)).length = z := by
  unfold bodyOf
  rw [List.length_take, List.length_drop, secAt_len hl, hz]
  omega
theorem decK_len_le (xs : List Nat) (k : Nat) (h : ∀ i, i < k → sizeOf2 (secAt xs i) ≤ 112) : (decK xs k).length ≤ k * 112 := by
  induction k with
  | zero => exact Nat.le_refl _
  | succ k ih =>
    rw [decK_snoc, List.length_append]
    have h1 := ih (fun i hi => h i (by omega))
    have h2 := h k (by omega)
    have h3 : (bodyOf (secAt xs k)).length ≤ sizeOf2 (secAt xs k) := by unfold bodyOf; rw [List.length_take]; omega
    omega
set_option maxRecDepth 8000 in
set_option maxHeartbeats 4000000 in
theorem ropen_main (e p b o m c : Nat) (xs : List Nat) (w : World) (he0 : e ≠ 0) (he : e < 4294967296) (hp : p < 4294967296) (hm : m = xs.length) (h128 : 128 ≤ m) (hmc : m ≤ c) (hb : BIn w (some ⟨b, o, none⟩) xs) (hL : m ≤ 10000) (R : OpenT) (hR : openR e p xs = R) :
    Calls Try.prog 21 #[.int .u32 e, .int .u32 p, .slice (some ⟨b, o, none⟩) m c] w fun x w' => x = .returned (openE R) ∧ Below w.heap.size w w' := by
  have g0 := beq0 he0
  have HE : Hid (e ≠ 0 ∧ e < 4294967296 ∧ p < 4294967296) := ⟨he0, he, hp⟩
  have HB : Hid (BIn w (some ⟨b, o, none⟩) xs) := hb
  have HR : Hid (openR e p xs = R) := hR
  have HM : Hid (m = xs.length ∧ 128 ≤ m ∧ m ≤ c ∧ m ≤ 10000) := ⟨hm, h128, hmc, hL⟩
  have hmI : (128 : Int) ≤ m := by omega
  have hmI2 : (m : Int) ≤ 10000 := by omega
  have hcI : (m : Int) ≤ c := by omega
  have hcI4 : (4 : Int) ≤ m := by omega
  have hc4 : ¬ c = 4 := by omega
  have h13 : (13 : Int) < m := by omega
  obtain ⟨s, hs⟩ : ∃ s, numAt xs 4 = s := ⟨_, rfl⟩
  obtain ⟨n, hn⟩ : ∃ n, xs.getD 13 0 = n := ⟨_, rfl⟩
  have HSN : Hid (numAt xs 4 = s ∧ xs.getD 13 0 = n) := ⟨hs, hn⟩
  have hs32 : s < 4294967296 := hs ▸ numAt_lt hb.2 4
  have HS32 : Hid (s < 4294967296) := hs32
  have hn256 : n < 256 := hn ▸ getD_lt hb.2 13
  have k0 : IntKind.i64.wrap ((n : Int) * 128) = (n : Int) * 128 := by rw [IntKind.wrap_i64]; omega
  clear he0 he hp hb hR hm h128 hmc hL hs hn hs32
  go_enter Try.func21, Try.ntmps21
  go_wp2_with fail
  refine (rnumber_any (some ⟨b, o + 4, none⟩) (xs.drop 4) _ _ _ (by rw [List.length_drop, ← HM.out.1]) (by rw [List.length_drop]; have := HM.out; omega) (HB.out.drop' 4)).mono ?_
  rintro x w1 ⟨rfl, hb1⟩
  rw [numAt_drop, HSN.out.1]
  have HB1 : Hid (Below w.heap.size w w1) := hb1
  have HI1 : Hid (BIn w1 (some ⟨b, o, none⟩) xs) := HB.out.below hb1
  have c13 : w1.cell? ⟨b, o + 13, none⟩ = some (.int .u8 n) := by have := HI1.out.cell 13 (by have := HM.out; omega); rw [HSN.out.2] at this; exact this
  clear hb1 HB
  by_cases hs0 : s = 0
  · have g1 : ((s : Int) == 0) = true := by simp [hs0]
    have HZ : Hid (s = 0) := hs0
    clear hs0
    go_wp2
    (try simp only [Exit.inBlock, Exit.then]); refine bodyPost_ret (results_tmp4 rfl _ _ _) rfl ?_
    exact ⟨ret_zero HE.out.1 (no_head HE.out.2.1 HE.out.2.2 (.inl (HSN.out.1.trans HZ.out))) HR.out, HB1.out⟩
  have g1 := beq0 hs0
  have HS0 : Hid (s ≠ 0) := hs0
  clear hs0
  by_cases hn0 : n = 0
  · have g2 : decide ((n : Int) < 1) = true := decide_eq_true (by omega)
    have HZ : Hid (n = 0) := hn0
    clear hn0
    go_wp2
    (try simp only [Exit.inBlock, Exit.then]); refine bodyPost_ret (results_tmp4 rfl _ _ _) rfl ?_
    exact ⟨ret_zero HE.out.1 (no_head HE.out.2.1 HE.out.2.2 (.inr (.inl (HSN.out.2.trans HZ.out)))) HR.out, HB1.out⟩
  have g2 : decide ((n : Int) < 1) = false := decide_eq_false (by omega)
  have HN0 : Hid (n ≠ 0) := hn0
  clear hn0
  by_cases hl : m < n * 128
  · have g3 : decide ((m : Int) < (n : Int) * 128) = true := decide_eq_true (by omega)
    have HZ : Hid (m < n * 128) := hl
    clear hl
    go_wp2
    (try simp only [Exit.inBlock, Exit.then]); refine bodyPost_ret (results_tmp4 rfl _ _ _) rfl ?_
    exact ⟨ret_zero HE.out.1 (no_head HE.out.2.1 HE.out.2.2 (.inr (.inr (by rw [HSN.out.2, ← HM.out.1]; exact HZ.out)))) HR.out, HB1.out⟩
  have g3 : decide ((m : Int) < (n : Int) * 128) = false := decide_eq_false (by omega)
  have HL : Hid (n * 128 ≤ m ∧ n < 256) := ⟨by omega, hn256⟩
  clear hl
  go_wp2
  go_loopw [12, 13] (fun v i wr => ∃ k : Nat, k ≤ n ∧ i = .int .i64 k ∧ St w1 [] wr v (decK xs k) ∧ ∀ j, j < k → sizeOf2 (secAt xs j) ≤ 112) (fun _ i _ => n - (intOf i).toNat)
  case atStart => exact ⟨0, by omega, rfl, St.start (fun p hp => by simp at hp), fun j hj => absurd hj (by omega)⟩
  case round =>
    obtain ⟨k, hk, rfl, hst, hsz⟩ := hrel
    have HST : Hid (St w1 [] wr _ (decK xs k)) := hst
    have HSZ : Hid (∀ j, j < k → sizeOf2 (secAt xs j) ≤ 112) := hsz
    have HIR : Hid (BIn wr (some ⟨b, o, none⟩) xs) := HI1.out.below hst.bel
    have HDL : Hid ((decK xs k).length ≤ 30000) := by have := decK_len_le xs k hsz; have := HL.out; show _ ≤ _; omega
    have hzw := hst.size
    clear hst hsz
    by_cases hkn : k < n
    · have hkI : (k : Int) < (n : Int) := by omega
      have HK : Hid (k < n ∧ (k + 1) * 128 ≤ xs.length) := ⟨hkn, by have := HM.out; have := HL.out; omega⟩
      have k1 : IntKind.i64.wrap ((k : Int) * 128) = (k : Int) * 128 := by rw [IntKind.wrap_i64]; omega
      have k2 : IntKind.i64.wrap ((k : Int) * 128 + 128) = (k : Int) * 128 + 128 := by rw [IntKind.wrap_i64]; omega
      have t2 : ((k : Int) * 128 + 128).toNat - k * 128 = 128 := by omega
      have hhi : (k : Int) * 128 + 128 ≤ (c : Int) := by have := HM.out; have := HL.out; omega
      have hck : ¬ c = k * 128 := by have := HM.out; have := HL.out; omega
      have hck2 : ¬ c - k * 128 = 16 := by have := HM.out; have := HL.out; omega
      have hck3 : (128 : Int) ≤ ((c - k * 128 : Nat) : Int) := by have := HM.out; have := HL.out; omega
      obtain ⟨a14, h14⟩ : ∃ a, xs.getD (k * 128 + 14) 0 = a := ⟨_, rfl⟩
      obtain ⟨a15, h15⟩ : ∃ a, xs.getD (k * 128 + 15) 0 = a := ⟨_, rfl⟩
      have c14 : wr.cell? ⟨b, o + k * 128 + 14, none⟩ = some (.int .u8 a14) := by have := HIR.out.cell (k * 128 + 14) (by have := HK.out; omega); rw [h14] at this; rw [Nat.add_assoc]; exact this
      have c15 : wr.cell? ⟨b, o + k * 128 + 15, none⟩ = some (.int .u8 a15) := by have := HIR.out.cell (k * 128 + 15) (by have := HK.out; omega); rw [h15] at this; rw [Nat.add_assoc]; exact this
      have b14 : a14 < 256 := h14 ▸ getD_lt HIR.out.2 _
      have b15 : a15 < 256 := h15 ▸ getD_lt HIR.out.2 _
      have k3 : IntKind.i64.wrap (256 * (a15 : Int)) = 256 * (a15 : Int) := by rw [IntKind.wrap_i64]; omega
      have k4 : IntKind.i64.wrap ((a14 : Int) + 256 * (a15 : Int)) = (a14 : Int) + 256 * (a15 : Int) := by rw [IntKind.wrap_i64]; omega
      have HZ : Hid (sizeOf2 (secAt xs k) = a14 + 256 * a15) := by show _ = _; unfold sizeOf2; rw [sec_getD _ _ _ (by omega), sec_getD _ _ _ (by omega), h14, h15]
      clear h14 h15
      by_cases hz : 112 < a14 + 256 * a15
      · have g4 : decide ((112 : Int) < (a14 : Int) + 256 * (a15 : Int)) = true := decide_eq_true (by omega)
        have HZ2 : Hid (112 < a14 + 256 * a15) := hz
        clear hz hkn
        go_wp2
        go_quiet (fail)
        go_wp2
        (try simp only [Exit.inBlock, Exit.then]); refine bodyPost_ret (results_tmp4 rfl _ _ _) rfl ?_
        exact ⟨ret_zero HE.out.1 (no_sec HE.out.2.1 HE.out.2.2 HSN.out.2 HK.out.1 (fun s hs => by have := hs.le; rw [HZ.out] at this; have := HZ2.out; omega)) HR.out, below_bt HB1.out (HST.out.call (below_dr wr _)).bel⟩
      · have g4 : decide ((112 : Int) < (a14 : Int) + 256 * (a15 : Int)) = false := decide_eq_false (by omega)
        have k5 : IntKind.i64.wrap (16 + ((a14 : Int) + 256 * (a15 : Int))) = 16 + ((a14 : Int) + 256 * (a15 : Int)) := by rw [IntKind.wrap_i64]; omega
        have hhi2 : 16 + ((a14 : Int) + 256 * (a15 : Int)) ≤ ((c - k * 128 : Nat) : Int) := by omega
        have HZ2 : Hid (a14 + 256 * a15 ≤ 112) := by show _ ≤ _; omega
        clear hz hkn
        go_wp2
        go_quiet (fail)
        have HSQ : Hid (St w1 [] (wr.drewN nq) _ (decK xs k)) := HST.out.call (below_dr wr nq)
        have HIQ : Hid (BIn (wr.drewN nq) (some ⟨b, o, none⟩) xs) := HIR.out.below (below_dr wr nq)
        clear HST HIR
        go_wp2_with (at_builtin; go_loud (refine wpList_append_bytes _ rfl _ _ rfl w1.heap.size _ _ (bodyOf (secAt xs k)) (some ⟨b, o + k * 128 + 16, none⟩) _ _ rfl rfl (by rw [body_len HK.out.2 HZ.out HZ2.out]; omega) HSQ.out.own (body_in HIQ.out rfl) (fun h => by cases h) (by have := HDL.out; rw [body_len HK.out.2 HZ.out HZ2.out]; have := HZ2.out; omega) hzw ?_); intro va ua hoa hga; have ta := HSQ.out.app hoa hga; have HTA : Hid _ := ta; clear ta hoa hga)
        go_roundw
        case rel => exact ⟨k + 1, by have := HK.out; omega, by go_num, HTA.out.eq (decK_snoc xs k).symm, fun j hj => by
          rcases Nat.lt_or_ge j k with h' | h'
          · exact HSZ.out j h'
          · obtain rfl : j = k := by omega
            rw [HZ.out]; exact HZ2.out⟩
        case measure => simp [intOf]; omega
    · obtain rfl : k = n := by omega
      obtain ⟨q5, m5, hv5, _, _, hq5⟩ := own_form HST.out.own
      subst hv5
      have HBY : Hid (∀ c ∈ decK xs k, c < 256) := decK_byte HIR.out.2 k
      have cv : (convert 22 9 (.slice q5 (decK xs k).length m5)).run Try.prog wr = .ok (.string (strOf (decK xs k))) wr := conv_at (own_at HST.out.own rfl HBY.out) rfl
      clear hq5
      go_wp2_with fail
      refine (rFrame_any e s p (strOf (decK xs k)) _ HE.out.2.1 HS32.out HE.out.2.2 (by rw [strOf_size]; have := HDL.out; omega)).mono ?_
      rintro x w5 ⟨⟨v5, rfl, ho5⟩, hb5⟩
      have HS5 : Hid (St w1 [] w5 (.slice q5 (decK xs k).length m5) (decK xs k)) := HST.out.call hb5
      have HI5 : Hid (BIn w5 (some ⟨b, o, none⟩) xs) := HIR.out.below hb5
      have cv5 : ∀ j, (convert 22 9 (.slice q5 (decK xs k).length m5)).run Try.prog (w5.drewN j) = .ok (.string (strOf (decK xs k))) (w5.drewN j) := fun j => conv_at (own_at (HS5.out.call (below_dr w5 j)).own rfl HBY.out) rfl
      clear HST HIR cv
      by_cases hlong : 4096 < (decK xs k).length
      · have hF : frameR e s p (numsOf (strOf (decK xs k))) = ([], 3) := by unfold frameR; rw [if_neg (by have := HE.out; have := HS0.out; omega), if_pos (by rw [nums_strOf HBY.out]; exact hlong)]
        have HLG : Hid (4096 < (decK xs k).length) := hlong
        rw [hF] at ho5 ⊢
        obtain ⟨q6, m6, hv6, _, _, hq6⟩ := own_form ho5
        subst hv6
        clear hlong hF ho5 hq6
        go_wp2
        go_quiet (fail)
        go_wp2
        (try simp only [Exit.inBlock, Exit.then]); refine bodyPost_ret (results_tmp4 rfl _ _ _) rfl ?_
        exact ⟨ret_zero HE.out.1 (no_long HE.out.2.1 HE.out.2.2 HSN.out.2 HLG.out) HR.out, below_bt HB1.out (HS5.out.call (below_dr w5 _)).bel⟩
      · have hF : frameR e s p (numsOf (strOf (decK xs k))) = (frameN e s p (decK xs k), 0) := by unfold frameR; rw [if_neg (by have := HE.out; have := HS0.out; omega), if_neg (by rw [nums_strOf HBY.out]; exact hlong), nums_strOf HBY.out]
        have HLG : Hid ((decK xs k).length ≤ 4096) := by show _ ≤ _; omega
        rw [hF] at ho5 ⊢
        obtain ⟨q6, m6, hv6, _, _, hq6⟩ := own_form ho5
        subst hv6
        have cv6 : ∀ j, (convert 22 9 (.slice q6 (frameN e s p (decK xs k)).length m6)).run Try.prog (w5.drewN j) = .ok (.string (strOf (frameN e s p (decK xs k)))) (w5.drewN j) := fun j => conv_at ((own_at ho5 rfl (frameN_byte HBY.out)).below (below_dr w5 j)) rfl
        have cv7 : ∀ j, (convert 22 9 (.slice (some ⟨b, o, none⟩) (k * 128) c)).run Try.prog (w5.drewN j) = .ok (.string (strOf (xs.take (k * 128)))) (w5.drewN j) := fun j => conv_at ((HI5.out.take' (k * 128)).below (below_dr w5 j)) (by rw [List.length_take]; have := HM.out; have := HL.out; omega)
        have t7 : ((k : Int) * 128).toNat = k * 128 := by omega
        have hk7 : (k : Int) * 128 ≤ (c : Int) := by have := HM.out; have := HL.out; omega
        have HEQ : Hid (((strOf (frameN e s p (decK xs k))).toList == (strOf (xs.take (k * 128))).toList) = decide (frameN e s p (decK xs k) = xs.take (k * 128))) := strs_eq (frameN_byte HBY.out) (fun c hc => HI5.out.2 c (List.mem_of_mem_take hc))
        clear hlong hF ho5 hq6
        by_cases hsame : frameN e s p (decK xs k) = xs.take (k * 128)
        · have g8 : ((strOf (frameN e s p (decK xs k))).toList == (strOf (xs.take (k * 128))).toList) = true := HEQ.out.trans (decide_eq_true hsame)
          have HSA : Hid (frameN e s p (decK xs k) = xs.take (k * 128)) := hsame
          clear hsame
          generalize strOf (frameN e s p (decK xs k)) = A at *
          generalize strOf (xs.take (k * 128)) = B at *
          go_wp2
          go_quiet (fail)
          go_wp2
          (try simp only [Exit.inBlock, Exit.then]); refine bodyPost_ret (results_tmp4 rfl _ _ _) rfl ?_
          have hy := yes_other (e := e) (p := p) HI5.out.2 (by rw [HSN.out.1]; exact HS0.out) (by have := HM.out; have := HL.out; omega) HLG.out (by rw [HSN.out.1]; exact HSA.out)
          rw [HSN.out.1] at hy
          exact ⟨ret_rec HE.out.1 HE.out.2.1 HE.out.2.2 hy.1 hy.2 HR.out, below_bt HB1.out (HS5.out.call (below_dr w5 _)).bel⟩
        · have g8 : ((strOf (frameN e s p (decK xs k))).toList == (strOf (xs.take (k * 128))).toList) = false := HEQ.out.trans (decide_eq_false hsame)
          have HSA : Hid (¬ frameN e s p (decK xs k) = xs.take (k * 128)) := hsame
          clear hsame
          generalize strOf (frameN e s p (decK xs k)) = A at *
          generalize strOf (xs.take (k * 128)) = B at *
          go_wp2
          go_quiet (fail)
          go_wp2
          (try simp only [Exit.inBlock, Exit.then]); refine bodyPost_ret (results_tmp4 rfl _ _ _) rfl ?_
          exact ⟨ret_zero HE.out.1 (no_other HE.out.2.1 HE.out.2.2 HSN.out.2 (by rw [HSN.out.1]; exact HSA.out)) HR.out, below_bt HB1.out (HS5.out.call (below_dr w5 _)).bel⟩
theorem rOpen_any (e p m c : Nat) (q : Option Addr) (xs : List Nat) (w : World) (he : e < 4294967296) (hp : p < 4294967296) (hm : m = xs.length) (hmc : m ≤ c) (hb : BIn w q xs) (hL : m ≤ 10000) (R : OpenT) (hR : openR e p xs = R) :
    Calls Try.prog 21 #[.int .u32 e, .int .u32 p, .slice q m c] w fun x w' => x = .returned (openE R) ∧ Below w.heap.size w w' := by
  by_cases h0 : e = 0
  · subst h0
    rw [openR_zero] at hR
    subst hR
    clear he hp
    go_enter Try.func21, Try.ntmps21
    go_wp2
    (try simp only [Exit.inBlock, Exit.then]); refine bodyPost_ret (results_tmp4 rfl _ _ _) rfl ?_
    exact ⟨rfl, Below.refl _ _⟩
  · by_cases h1 : m < 128
    · have g0 := beq0 h0
      have g1 : decide ((m : Int) < 128) = true := decide_eq_true (by omega)
      have HN : Hid (xs.length < 128) := by show _ < _; omega
      have HE : Hid (e ≠ 0) := h0
      have HR : Hid (openR e p xs = R) := hR
      clear h0 h1 hR hm hmc hL he hp hb
      go_enter Try.func21, Try.ntmps21
      go_wp2
      (try simp only [Exit.inBlock, Exit.then]); refine bodyPost_ret (results_tmp4 rfl _ _ _) rfl ?_
      exact ⟨ret_zero HE.out (no_short HN.out) HR.out, Below.refl _ _⟩
    · obtain ⟨b, o, rfl⟩ := hb.addr (by omega)
      exact ropen_main e p b o m c xs w h0 he hp hm (by omega) hmc hb hL R hR
end Go.Proofs.Ytnajjfdbmdjcbaa
namespace Go.Proofs.Ytnajjfdbmdjcbaa
open Go.RowKit Go.WideShapes

theorem drop_in0 {w : World} {p : Option Addr} {xs : List Nat} (h : xs.length = 0) : BIn w p xs := by
  obtain rfl := List.eq_nil_of_length_eq_zero h
  exact ⟨fun h => by simp at h, by simp⟩
def allZ (xs : List Nat) : Bool := decide (∀ c ∈ xs, c = 0)
end Go.Proofs.Ytnajjfdbmdjcbaa
namespace Go.Proofs.Ytnajjfdbmdjcbaa
open Go.RowKit Go.WideShapes

set_option maxRecDepth 8000 in
set_option maxHeartbeats 2000000 in
theorem part_ne0 (e s p i n z a0 a1 a2 a3 a4 k : Nat) (b o c : Nat) (xs : List Nat) (w : World) (hx : xs.length = 128) (hc : 128 ≤ c) (hcm : c ≤ maxLen) (hb : BIn w (some ⟨b, o, none⟩) xs) (hm : markOfN xs = .agg #[.int .u32 a0, .int .u32 a1, .int .u32 a2, .int .i64 a3, .int .i64 a4, .int .i64 k]) (hne : a0 ≠ e) :
    Calls Try.prog 67 #[.slice (some ⟨b, o, none⟩) 128 c, markV e s p i n z] w fun x w' => x = .returned (.tuple #[.slice none 0 0, .bool false]) ∧ Below w.heap.size w w' := by
  have g : ((a0 : Int) == (e : Int)) = false := by simp; omega
  clear hne
  have HX : Hid (xs.length = 128) := hx
  have HB : Hid (BIn w (some ⟨b, o, none⟩) xs) := hb
  have HCM : Hid (c ≤ maxLen) := hcm
  have h16c : (16 : Int) < c := by omega
  have hcI : (128 : Int) ≤ c := by omega
  have HC : Hid (128 ≤ c) := hc
  have HM : Hid (markOfN xs = .agg #[.int .u32 a0, .int .u32 a1, .int .u32 a2, .int .i64 a3, .int .i64 a4, .int .i64 k]) := hm
  clear hx hb hc hcm hm
  unfold markV
  go_enter Try.func67, Try.ntmps67
  go_wp2_with fail
  refine (markOf_any (some ⟨b, o, none⟩) xs 128 c _ HX.out.symm (by have := HX.out; omega) HC.out (HB.out.alloc _)).mono ?_
  rintro x w1 ⟨ex, hb1⟩
  rw [HM.out] at ex
  subst ex
  have hbw : Below (w.alloc (.cells #[.int .u32 e, .int .u32 s, .int .u32 p, .int .i64 i, .int .i64 n, .int .i64 z] 116)).heap.size (w.alloc (.cells #[.int .u32 e, .int .u32 s, .int .u32 p, .int .i64 i, .int .i64 n, .int .i64 z] 116)) w1 := hb1
  have hbx : w1.heap[w.heap.size]? = some (.cells #[.int .u32 e, .int .u32 s, .int .u32 p, .int .i64 i, .int .i64 n, .int .i64 z] 116 (0, 0)) := (hbw.block _ (by simp)).trans (heap_alloc_new w _)
  have hlt : w.heap.size < w1.heap.size := lt_heap hbx
  have q0 : w1.cell? ⟨w.heap.size, 0, none⟩ = some (.int .u32 e) := cell_of_row w1 _ 0 _ _ _ hbx
  have q1 : w1.cell? ⟨w.heap.size, 1, none⟩ = some (.int .u32 s) := cell_of_row w1 _ 1 _ _ _ hbx
  have q2 : w1.cell? ⟨w.heap.size, 2, none⟩ = some (.int .u32 p) := cell_of_row w1 _ 2 _ _ _ hbx
  have q3 : w1.cell? ⟨w.heap.size, 3, none⟩ = some (.int .i64 i) := cell_of_row w1 _ 3 _ _ _ hbx
  have q4 : w1.cell? ⟨w.heap.size, 4, none⟩ = some (.int .i64 n) := cell_of_row w1 _ 4 _ _ _ hbx
  have q5 : w1.cell? ⟨w.heap.size, 5, none⟩ = some (.int .i64 z) := cell_of_row w1 _ 5 _ _ _ hbx
  have f5 : w1.frozen? ⟨w.heap.size, 5, none⟩ = false := by simp [World.frozen?, hbx]
  have HW1 : Hid (Below w.heap.size w w1) := (below_alloc w _).trans (hbw.mono (by simp))
  have HZ : Hid (Below w.heap.size w ((w1.setCell ⟨w.heap.size, 5, none⟩ (.int .i64 k)).alloc (.cells #[.int .u32 a0, .int .u32 a1, .int .u32 a2, .int .i64 a3, .int .i64 a4, .int .i64 k] 116))) := (HW1.out.setCell (Nat.le_refl _) _).alloc (by simp [World.setCell]; omega) _
  clear hbx hbw hb1
  go_wp2
  go_ret2
  exact ⟨rfl, HZ.out⟩
set_option maxRecDepth 8000 in
set_option maxHeartbeats 2000000 in
theorem part_ne1 (e s p i n z a1 a2 a3 a4 k : Nat) (b o c : Nat) (xs : List Nat) (w : World) (hx : xs.length = 128) (hc : 128 ≤ c) (hcm : c ≤ maxLen) (hb : BIn w (some ⟨b, o, none⟩) xs) (hm : markOfN xs = .agg #[.int .u32 e, .int .u32 a1, .int .u32 a2, .int .i64 a3, .int .i64 a4, .int .i64 k]) (hne : a1 ≠ s) :
    Calls Try.prog 67 #[.slice (some ⟨b, o, none⟩) 128 c, markV e s p i n z] w fun x w' => x = .returned (.tuple #[.slice none 0 0, .bool false]) ∧ Below w.heap.size w w' := by
  have g : ((a1 : Int) == (s : Int)) = false := by simp; omega
  clear hne
  have HX : Hid (xs.length = 128) := hx
  have HB : Hid (BIn w (some ⟨b, o, none⟩) xs) := hb
  have HCM : Hid (c ≤ maxLen) := hcm
  have h16c : (16 : Int) < c := by omega
  have hcI : (128 : Int) ≤ c := by omega
  have HC : Hid (128 ≤ c) := hc
  have HM : Hid (markOfN xs = .agg #[.int .u32 e, .int .u32 a1, .int .u32 a2, .int .i64 a3, .int .i64 a4, .int .i64 k]) := hm
  clear hx hb hc hcm hm
  unfold markV
  go_enter Try.func67, Try.ntmps67
  go_wp2_with fail
  refine (markOf_any (some ⟨b, o, none⟩) xs 128 c _ HX.out.symm (by have := HX.out; omega) HC.out (HB.out.alloc _)).mono ?_
  rintro x w1 ⟨ex, hb1⟩
  rw [HM.out] at ex
  subst ex
  have hbw : Below (w.alloc (.cells #[.int .u32 e, .int .u32 s, .int .u32 p, .int .i64 i, .int .i64 n, .int .i64 z] 116)).heap.size (w.alloc (.cells #[.int .u32 e, .int .u32 s, .int .u32 p, .int .i64 i, .int .i64 n, .int .i64 z] 116)) w1 := hb1
  have hbx : w1.heap[w.heap.size]? = some (.cells #[.int .u32 e, .int .u32 s, .int .u32 p, .int .i64 i, .int .i64 n, .int .i64 z] 116 (0, 0)) := (hbw.block _ (by simp)).trans (heap_alloc_new w _)
  have hlt : w.heap.size < w1.heap.size := lt_heap hbx
  have q0 : w1.cell? ⟨w.heap.size, 0, none⟩ = some (.int .u32 e) := cell_of_row w1 _ 0 _ _ _ hbx
  have q1 : w1.cell? ⟨w.heap.size, 1, none⟩ = some (.int .u32 s) := cell_of_row w1 _ 1 _ _ _ hbx
  have q2 : w1.cell? ⟨w.heap.size, 2, none⟩ = some (.int .u32 p) := cell_of_row w1 _ 2 _ _ _ hbx
  have q3 : w1.cell? ⟨w.heap.size, 3, none⟩ = some (.int .i64 i) := cell_of_row w1 _ 3 _ _ _ hbx
  have q4 : w1.cell? ⟨w.heap.size, 4, none⟩ = some (.int .i64 n) := cell_of_row w1 _ 4 _ _ _ hbx
  have q5 : w1.cell? ⟨w.heap.size, 5, none⟩ = some (.int .i64 z) := cell_of_row w1 _ 5 _ _ _ hbx
  have f5 : w1.frozen? ⟨w.heap.size, 5, none⟩ = false := by simp [World.frozen?, hbx]
  have HW1 : Hid (Below w.heap.size w w1) := (below_alloc w _).trans (hbw.mono (by simp))
  have HZ : Hid (Below w.heap.size w ((w1.setCell ⟨w.heap.size, 5, none⟩ (.int .i64 k)).alloc (.cells #[.int .u32 e, .int .u32 a1, .int .u32 a2, .int .i64 a3, .int .i64 a4, .int .i64 k] 116))) := (HW1.out.setCell (Nat.le_refl _) _).alloc (by simp [World.setCell]; omega) _
  clear hbx hbw hb1
  go_wp2
  go_ret2
  exact ⟨rfl, HZ.out⟩
set_option maxRecDepth 8000 in
set_option maxHeartbeats 2000000 in
theorem part_ne2 (e s p i n z a2 a3 a4 k : Nat) (b o c : Nat) (xs : List Nat) (w : World) (hx : xs.length = 128) (hc : 128 ≤ c) (hcm : c ≤ maxLen) (hb : BIn w (some ⟨b, o, none⟩) xs) (hm : markOfN xs = .agg #[.int .u32 e, .int .u32 s, .int .u32 a2, .int .i64 a3, .int .i64 a4, .int .i64 k]) (hne : a2 ≠ p) :
    Calls Try.prog 67 #[.slice (some ⟨b, o, none⟩) 128 c, markV e s p i n z] w fun x w' => x = .returned (.tuple #[.slice none 0 0, .bool false]) ∧ Below w.heap.size w w' := by
  have g : ((a2 : Int) == (p : Int)) = false := by simp; omega
  clear hne
  have HX : Hid (xs.length = 128) := hx
  have HB : Hid (BIn w (some ⟨b, o, none⟩) xs) := hb
  have HCM : Hid (c ≤ maxLen) := hcm
  have h16c : (16 : Int) < c := by omega
  have hcI : (128 : Int) ≤ c := by omega
  have HC : Hid (128 ≤ c) := hc
  have HM : Hid (markOfN xs = .agg #[.int .u32 e, .int .u32 s, .int .u32 a2, .int .i64 a3, .int .i64 a4, .int .i64 k]) := hm
  clear hx hb hc hcm hm
  unfold markV
  go_enter Try.func67, Try.ntmps67
  go_wp2_with fail
  refine (markOf_any (some ⟨b, o, none⟩) xs 128 c _ HX.out.symm (by have := HX.out; omega) HC.out (HB.out.alloc _)).mono ?_
  rintro x w1 ⟨ex, hb1⟩
  rw [HM.out] at ex
  subst ex
  have hbw : Below (w.alloc (.cells #[.int .u32 e, .int .u32 s, .int .u32 p, .int .i64 i, .int .i64 n, .int .i64 z] 116)).heap.size (w.alloc (.cells #[.int .u32 e, .int .u32 s, .int .u32 p, .int .i64 i, .int .i64 n, .int .i64 z] 116)) w1 := hb1
  have hbx : w1.heap[w.heap.size]? = some (.cells #[.int .u32 e, .int .u32 s, .int .u32 p, .int .i64 i, .int .i64 n, .int .i64 z] 116 (0, 0)) := (hbw.block _ (by simp)).trans (heap_alloc_new w _)
  have hlt : w.heap.size < w1.heap.size := lt_heap hbx
  have q0 : w1.cell? ⟨w.heap.size, 0, none⟩ = some (.int .u32 e) := cell_of_row w1 _ 0 _ _ _ hbx
  have q1 : w1.cell? ⟨w.heap.size, 1, none⟩ = some (.int .u32 s) := cell_of_row w1 _ 1 _ _ _ hbx
  have q2 : w1.cell? ⟨w.heap.size, 2, none⟩ = some (.int .u32 p) := cell_of_row w1 _ 2 _ _ _ hbx
  have q3 : w1.cell? ⟨w.heap.size, 3, none⟩ = some (.int .i64 i) := cell_of_row w1 _ 3 _ _ _ hbx
  have q4 : w1.cell? ⟨w.heap.size, 4, none⟩ = some (.int .i64 n) := cell_of_row w1 _ 4 _ _ _ hbx
  have q5 : w1.cell? ⟨w.heap.size, 5, none⟩ = some (.int .i64 z) := cell_of_row w1 _ 5 _ _ _ hbx
  have f5 : w1.frozen? ⟨w.heap.size, 5, none⟩ = false := by simp [World.frozen?, hbx]
  have HW1 : Hid (Below w.heap.size w w1) := (below_alloc w _).trans (hbw.mono (by simp))
  have HZ : Hid (Below w.heap.size w ((w1.setCell ⟨w.heap.size, 5, none⟩ (.int .i64 k)).alloc (.cells #[.int .u32 e, .int .u32 s, .int .u32 a2, .int .i64 a3, .int .i64 a4, .int .i64 k] 116))) := (HW1.out.setCell (Nat.le_refl _) _).alloc (by simp [World.setCell]; omega) _
  clear hbx hbw hb1
  go_wp2
  go_ret2
  exact ⟨rfl, HZ.out⟩
set_option maxRecDepth 8000 in
set_option maxHeartbeats 2000000 in
theorem part_ne3 (e s p i n z a3 a4 k : Nat) (b o c : Nat) (xs : List Nat) (w : World) (hx : xs.length = 128) (hc : 128 ≤ c) (hcm : c ≤ maxLen) (hb : BIn w (some ⟨b, o, none⟩) xs) (hm : markOfN xs = .agg #[.int .u32 e, .int .u32 s, .int .u32 p, .int .i64 a3, .int .i64 a4, .int .i64 k]) (hne : a3 ≠ i) :
    Calls Try.prog 67 #[.slice (some ⟨b, o, none⟩) 128 c, markV e s p i n z] w fun x w' => x = .returned (.tuple #[.slice none 0 0, .bool false]) ∧ Below w.heap.size w w' := by
  have g : ((a3 : Int) == (i : Int)) = false := by simp; omega
  clear hne
  have HX : Hid (xs.length = 128) := hx
  have HB : Hid (BIn w (some ⟨b, o, none⟩) xs) := hb
  have HCM : Hid (c ≤ maxLen) := hcm
  have h16c : (16 : Int) < c := by omega
  have hcI : (128 : Int) ≤ c := by omega
  have HC : Hid (128 ≤ c) := hc
  have HM : Hid (markOfN xs = .agg #[.int .u32 e, .int .u32 s, .int .u32 p, .int .i64 a3, .int .i64 a4, .int .i64 k]) := hm
  clear hx hb hc hcm hm
  unfold markV
  go_enter Try.func67, Try.ntmps67
  go_wp2_with fail
  refine (markOf_any (some ⟨b, o, none⟩) xs 128 c _ HX.out.symm (by have := HX.out; omega) HC.out (HB.out.alloc _)).mono ?_
  rintro x w1 ⟨ex, hb1⟩
  rw [HM.out] at ex
  subst ex
  have hbw : Below (w.alloc (.cells #[.int .u32 e, .int .u32 s, .int .u32 p, .int .i64 i, .int .i64 n, .int .i64 z] 116)).heap.size (w.alloc (.cells #[.int .u32 e, .int .u32 s, .int .u32 p, .int .i64 i, .int .i64 n, .int .i64 z] 116)) w1 := hb1
  have hbx : w1.heap[w.heap.size]? = some (.cells #[.int .u32 e, .int .u32 s, .int .u32 p, .int .i64 i, .int .i64 n, .int .i64 z] 116 (0, 0)) := (hbw.block _ (by simp)).trans (heap_alloc_new w _)
  have hlt : w.heap.size < w1.heap.size := lt_heap hbx
  have q0 : w1.cell? ⟨w.heap.size, 0, none⟩ = some (.int .u32 e) := cell_of_row w1 _ 0 _ _ _ hbx
  have q1 : w1.cell? ⟨w.heap.size, 1, none⟩ = some (.int .u32 s) := cell_of_row w1 _ 1 _ _ _ hbx
  have q2 : w1.cell? ⟨w.heap.size, 2, none⟩ = some (.int .u32 p) := cell_of_row w1 _ 2 _ _ _ hbx
  have q3 : w1.cell? ⟨w.heap.size, 3, none⟩ = some (.int .i64 i) := cell_of_row w1 _ 3 _ _ _ hbx
  have q4 : w1.cell? ⟨w.heap.size, 4, none⟩ = some (.int .i64 n) := cell_of_row w1 _ 4 _ _ _ hbx
  have q5 : w1.cell? ⟨w.heap.size, 5, none⟩ = some (.int .i64 z) := cell_of_row w1 _ 5 _ _ _ hbx
  have f5 : w1.frozen? ⟨w.heap.size, 5, none⟩ = false := by simp [World.frozen?, hbx]
  have HW1 : Hid (Below w.heap.size w w1) := (below_alloc w _).trans (hbw.mono (by simp))
  have HZ : Hid (Below w.heap.size w ((w1.setCell ⟨w.heap.size, 5, none⟩ (.int .i64 k)).alloc (.cells #[.int .u32 e, .int .u32 s, .int .u32 p, .int .i64 a3, .int .i64 a4, .int .i64 k] 116))) := (HW1.out.setCell (Nat.le_refl _) _).alloc (by simp [World.setCell]; omega) _
  clear hbx hbw hb1
  go_wp2
  go_ret2
  exact ⟨rfl, HZ.out⟩
set_option maxRecDepth 8000 in
set_option maxHeartbeats 2000000 in
theorem part_ne4 (e s p i n z a4 k : Nat) (b o c : Nat) (xs : List Nat) (w : World) (hx : xs.length = 128) (hc : 128 ≤ c) (hcm : c ≤ maxLen) (hb : BIn w (some ⟨b, o, none⟩) xs) (hm : markOfN xs = .agg #[.int .u32 e, .int .u32 s, .int .u32 p, .int .i64 i, .int .i64 a4, .int .i64 k]) (hne : a4 ≠ n) :
    Calls Try.prog 67 #[.slice (some ⟨b, o, none⟩) 128 c, markV e s p i n z] w fun x w' => x = .returned (.tuple #[.slice none 0 0, .bool false]) ∧ Below w.heap.size w w' := by
  have g : ((a4 : Int) == (n : Int)) = false := by simp; omega
  clear hne
  have HX : Hid (xs.length = 128) := hx
  have HB : Hid (BIn w (some ⟨b, o, none⟩) xs) := hb
  have HCM : Hid (c ≤ maxLen) := hcm
  have h16c : (16 : Int) < c := by omega
  have hcI : (128 : Int) ≤ c := by omega
  have HC : Hid (128 ≤ c) := hc
  have HM : Hid (markOfN xs = .agg #[.int .u32 e, .int .u32 s, .int .u32 p, .int .i64 i, .int .i64 a4, .int .i64 k]) := hm
  clear hx hb hc hcm hm
  unfold markV
  go_enter Try.func67, Try.ntmps67
  go_wp2_with fail
  refine (markOf_any (some ⟨b, o, none⟩) xs 128 c _ HX.out.symm (by have := HX.out; omega) HC.out (HB.out.alloc _)).mono ?_
  rintro x w1 ⟨ex, hb1⟩
  rw [HM.out] at ex
  subst ex
  have hbw : Below (w.alloc (.cells #[.int .u32 e, .int .u32 s, .int .u32 p, .int .i64 i, .int .i64 n, .int .i64 z] 116)).heap.size (w.alloc (.cells #[.int .u32 e, .int .u32 s, .int .u32 p, .int .i64 i, .int .i64 n, .int .i64 z] 116)) w1 := hb1
  have hbx : w1.heap[w.heap.size]? = some (.cells #[.int .u32 e, .int .u32 s, .int .u32 p, .int .i64 i, .int .i64 n, .int .i64 z] 116 (0, 0)) := (hbw.block _ (by simp)).trans (heap_alloc_new w _)
  have hlt : w.heap.size < w1.heap.size := lt_heap hbx
  have q0 : w1.cell? ⟨w.heap.size, 0, none⟩ = some (.int .u32 e) := cell_of_row w1 _ 0 _ _ _ hbx
  have q1 : w1.cell? ⟨w.heap.size, 1, none⟩ = some (.int .u32 s) := cell_of_row w1 _ 1 _ _ _ hbx
  have q2 : w1.cell? ⟨w.heap.size, 2, none⟩ = some (.int .u32 p) := cell_of_row w1 _ 2 _ _ _ hbx
  have q3 : w1.cell? ⟨w.heap.size, 3, none⟩ = some (.int .i64 i) := cell_of_row w1 _ 3 _ _ _ hbx
  have q4 : w1.cell? ⟨w.heap.size, 4, none⟩ = some (.int .i64 n) := cell_of_row w1 _ 4 _ _ _ hbx
  have q5 : w1.cell? ⟨w.heap.size, 5, none⟩ = some (.int .i64 z) := cell_of_row w1 _ 5 _ _ _ hbx
  have f5 : w1.frozen? ⟨w.heap.size, 5, none⟩ = false := by simp [World.frozen?, hbx]
  have HW1 : Hid (Below w.heap.size w w1) := (below_alloc w _).trans (hbw.mono (by simp))
  have HZ : Hid (Below w.heap.size w ((w1.setCell ⟨w.heap.size, 5, none⟩ (.int .i64 k)).alloc (.cells #[.int .u32 e, .int .u32 s, .int .u32 p, .int .i64 i, .int .i64 a4, .int .i64 k] 116))) := (HW1.out.setCell (Nat.le_refl _) _).alloc (by simp [World.setCell]; omega) _
  clear hbx hbw hb1
  go_wp2
  go_ret2
  exact ⟨rfl, HZ.out⟩
end Go.Proofs.Ytnajjfdbmdjcbaa
namespace Go.Proofs.Ytnajjfdbmdjcbaa
open Go.RowKit Go.WideShapes

set_option maxRecDepth 8000 in
set_option maxHeartbeats 2000000 in
theorem part_few0 (e s p i n z k : Nat) (b o c : Nat) (xs : List Nat) (w : World) (hx : xs.length = 128) (hc : 128 ≤ c) (hcm : c ≤ maxLen) (hb : BIn w (some ⟨b, o, none⟩) xs) (hm : markOfN xs = .agg #[.int .u32 e, .int .u32 s, .int .u32 p, .int .i64 i, .int .i64 n, .int .i64 k]) (hi : i < 256) (hn : n < 256) (h1 : i + 1 < n) (hk : k < 112) :
    Calls Try.prog 67 #[.slice (some ⟨b, o, none⟩) 128 c, markV e s p i n z] w fun x w' => x = .returned (.tuple #[.slice none 0 0, .bool false]) ∧ Below w.heap.size w w' := by
  have g : decide ((k : Int) < 112) = true := decide_eq_true (by omega)
  have gk : (k : Int) < 112 := by omega
  clear hk
  have HI : Hid (i < 256 ∧ n < 256) := ⟨hi, hn⟩
  have HP : Hid (placeN i n = 0) := by show _ = _; unfold placeN; rw [if_pos h1]
  clear hi hn h1
  have HX : Hid (xs.length = 128) := hx
  have HB : Hid (BIn w (some ⟨b, o, none⟩) xs) := hb
  have HCM : Hid (c ≤ maxLen) := hcm
  have h16c : (16 : Int) < c := by omega
  have hcI : (128 : Int) ≤ c := by omega
  have HC : Hid (128 ≤ c) := hc
  have HM : Hid (markOfN xs = .agg #[.int .u32 e, .int .u32 s, .int .u32 p, .int .i64 i, .int .i64 n, .int .i64 k]) := hm
  clear hx hb hc hcm hm
  unfold markV
  go_enter Try.func67, Try.ntmps67
  go_wp2_with fail
  refine (markOf_any (some ⟨b, o, none⟩) xs 128 c _ HX.out.symm (by have := HX.out; omega) HC.out (HB.out.alloc _)).mono ?_
  rintro x w1 ⟨ex, hb1⟩
  rw [HM.out] at ex
  subst ex
  have hbw : Below (w.alloc (.cells #[.int .u32 e, .int .u32 s, .int .u32 p, .int .i64 i, .int .i64 n, .int .i64 z] 116)).heap.size (w.alloc (.cells #[.int .u32 e, .int .u32 s, .int .u32 p, .int .i64 i, .int .i64 n, .int .i64 z] 116)) w1 := hb1
  have hbx : w1.heap[w.heap.size]? = some (.cells #[.int .u32 e, .int .u32 s, .int .u32 p, .int .i64 i, .int .i64 n, .int .i64 z] 116 (0, 0)) := (hbw.block _ (by simp)).trans (heap_alloc_new w _)
  have hlt : w.heap.size < w1.heap.size := lt_heap hbx
  have q0 : w1.cell? ⟨w.heap.size, 0, none⟩ = some (.int .u32 e) := cell_of_row w1 _ 0 _ _ _ hbx
  have q1 : w1.cell? ⟨w.heap.size, 1, none⟩ = some (.int .u32 s) := cell_of_row w1 _ 1 _ _ _ hbx
  have q2 : w1.cell? ⟨w.heap.size, 2, none⟩ = some (.int .u32 p) := cell_of_row w1 _ 2 _ _ _ hbx
  have q3 : w1.cell? ⟨w.heap.size, 3, none⟩ = some (.int .i64 i) := cell_of_row w1 _ 3 _ _ _ hbx
  have q4 : w1.cell? ⟨w.heap.size, 4, none⟩ = some (.int .i64 n) := cell_of_row w1 _ 4 _ _ _ hbx
  have q5 : w1.cell? ⟨w.heap.size, 5, none⟩ = some (.int .i64 z) := cell_of_row w1 _ 5 _ _ _ hbx
  have f5 : w1.frozen? ⟨w.heap.size, 5, none⟩ = false := by simp [World.frozen?, hbx]
  have HW1 : Hid (Below w.heap.size w w1) := (below_alloc w _).trans (hbw.mono (by simp))
  have HZ : Hid (Below w.heap.size w ((w1.setCell ⟨w.heap.size, 5, none⟩ (.int .i64 k)).alloc (.cells #[.int .u32 e, .int .u32 s, .int .u32 p, .int .i64 i, .int .i64 n, .int .i64 k] 116))) := (HW1.out.setCell (Nat.le_refl _) _).alloc (by simp [World.setCell]; omega) _
  clear hbx hbw hb1
  go_wp2_with fail
  refine (place_any e s p i n k 0 _ HI.out.1 HI.out.2 HP.out).mono ?_
  rintro x w2 ⟨ex, hb2⟩
  subst ex
  have hZ := HZ.out
  have hsz2 := hb2.size
  have hszZ : (w1.setCell ⟨w.heap.size, 5, none⟩ (.int .i64 k)).heap.size = w1.heap.size := by simp [World.setCell]
  have hbm : w2.heap[w1.heap.size]? = some (.cells #[.int .u32 e, .int .u32 s, .int .u32 p, .int .i64 i, .int .i64 n, .int .i64 k] 116 (0, 0)) := by
    have h3 := heap_alloc_new (w1.setCell ⟨w.heap.size, 5, none⟩ (.int .i64 k)) (.cells #[.int .u32 e, .int .u32 s, .int .u32 p, .int .i64 i, .int .i64 n, .int .i64 k] 116)
    rw [hszZ] at h3
    exact (hb2.block _ (by rw [World.size_alloc, hszZ]; omega)).trans h3
  have m5 : w2.cell? ⟨w1.heap.size, 5, none⟩ = some (.int .i64 k) := cell_of_row w2 _ 5 _ _ _ hbm
  have HZ2 : Hid (Below w.heap.size w w2) := hZ.trans (hb2.mono hZ.size)
  clear hbm hb2 hZ HZ q0 q1 q2 q3 q4 q5 f5 hszZ
  go_wp2
  go_ret2
  exact ⟨rfl, HZ2.out⟩
set_option maxRecDepth 8000 in
set_option maxHeartbeats 2000000 in
set_option linter.unusedVariables false in
theorem part_many0 (e s p i n z k : Nat) (b o c : Nat) (xs : List Nat) (w : World) (hx : xs.length = 128) (hc : 128 ≤ c) (hcm : c ≤ maxLen) (hb : BIn w (some ⟨b, o, none⟩) xs) (hm : markOfN xs = .agg #[.int .u32 e, .int .u32 s, .int .u32 p, .int .i64 i, .int .i64 n, .int .i64 k]) (hi : i < 256) (hn : n < 256) (h1 : i + 1 < n) (_hk0 : 112 ≤ k) (hk : 112 < k) :
    Calls Try.prog 67 #[.slice (some ⟨b, o, none⟩) 128 c, markV e s p i n z] w fun x w' => x = .returned (.tuple #[.slice none 0 0, .bool false]) ∧ Below w.heap.size w w' := by
  have g0 : decide ((k : Int) < 112) = false := decide_eq_false (by omega)
  have g0' : ¬ (k : Int) < 112 := by omega
  have g00 : ((k : Int) == 0) = false := by simp; omega
  clear _hk0
  have gk : (112 : Int) < k := by omega
  clear hk
  have HI : Hid (i < 256 ∧ n < 256) := ⟨hi, hn⟩
  have HP : Hid (placeN i n = 0) := by show _ = _; unfold placeN; rw [if_pos h1]
  clear hi hn h1
  have HX : Hid (xs.length = 128) := hx
  have HB : Hid (BIn w (some ⟨b, o, none⟩) xs) := hb
  have HCM : Hid (c ≤ maxLen) := hcm
  have h16c : (16 : Int) < c := by omega
  have hcI : (128 : Int) ≤ c := by omega
  have HC : Hid (128 ≤ c) := hc
  have HM : Hid (markOfN xs = .agg #[.int .u32 e, .int .u32 s, .int .u32 p, .int .i64 i, .int .i64 n, .int .i64 k]) := hm
  clear hx hb hc hcm hm
  unfold markV
  go_enter Try.func67, Try.ntmps67
  go_wp2_with fail
  refine (markOf_any (some ⟨b, o, none⟩) xs 128 c _ HX.out.symm (by have := HX.out; omega) HC.out (HB.out.alloc _)).mono ?_
  rintro x w1 ⟨ex, hb1⟩
  rw [HM.out] at ex
  subst ex
  have hbw : Below (w.alloc (.cells #[.int .u32 e, .int .u32 s, .int .u32 p, .int .i64 i, .int .i64 n, .int .i64 z] 116)).heap.size (w.alloc (.cells #[.int .u32 e, .int .u32 s, .int .u32 p, .int .i64 i, .int .i64 n, .int .i64 z] 116)) w1 := hb1
  have hbx : w1.heap[w.heap.size]? = some (.cells #[.int .u32 e, .int .u32 s, .int .u32 p, .int .i64 i, .int .i64 n, .int .i64 z] 116 (0, 0)) := (hbw.block _ (by simp)).trans (heap_alloc_new w _)
  have hlt : w.heap.size < w1.heap.size := lt_heap hbx
  have q0 : w1.cell? ⟨w.heap.size, 0, none⟩ = some (.int .u32 e) := cell_of_row w1 _ 0 _ _ _ hbx
  have q1 : w1.cell? ⟨w.heap.size, 1, none⟩ = some (.int .u32 s) := cell_of_row w1 _ 1 _ _ _ hbx
  have q2 : w1.cell? ⟨w.heap.size, 2, none⟩ = some (.int .u32 p) := cell_of_row w1 _ 2 _ _ _ hbx
  have q3 : w1.cell? ⟨w.heap.size, 3, none⟩ = some (.int .i64 i) := cell_of_row w1 _ 3 _ _ _ hbx
  have q4 : w1.cell? ⟨w.heap.size, 4, none⟩ = some (.int .i64 n) := cell_of_row w1 _ 4 _ _ _ hbx
  have q5 : w1.cell? ⟨w.heap.size, 5, none⟩ = some (.int .i64 z) := cell_of_row w1 _ 5 _ _ _ hbx
  have f5 : w1.frozen? ⟨w.heap.size, 5, none⟩ = false := by simp [World.frozen?, hbx]
  have HW1 : Hid (Below w.heap.size w w1) := (below_alloc w _).trans (hbw.mono (by simp))
  have HZ : Hid (Below w.heap.size w ((w1.setCell ⟨w.heap.size, 5, none⟩ (.int .i64 k)).alloc (.cells #[.int .u32 e, .int .u32 s, .int .u32 p, .int .i64 i, .int .i64 n, .int .i64 k] 116))) := (HW1.out.setCell (Nat.le_refl _) _).alloc (by simp [World.setCell]; omega) _
  clear hbx hbw hb1
  go_wp2_with fail
  refine (place_any e s p i n k 0 _ HI.out.1 HI.out.2 HP.out).mono ?_
  rintro x w2 ⟨ex, hb2⟩
  subst ex
  have hZ := HZ.out
  have hsz2 := hb2.size
  have hszZ : (w1.setCell ⟨w.heap.size, 5, none⟩ (.int .i64 k)).heap.size = w1.heap.size := by simp [World.setCell]
  have hbm : w2.heap[w1.heap.size]? = some (.cells #[.int .u32 e, .int .u32 s, .int .u32 p, .int .i64 i, .int .i64 n, .int .i64 k] 116 (0, 0)) := by
    have h3 := heap_alloc_new (w1.setCell ⟨w.heap.size, 5, none⟩ (.int .i64 k)) (.cells #[.int .u32 e, .int .u32 s, .int .u32 p, .int .i64 i, .int .i64 n, .int .i64 k] 116)
    rw [hszZ] at h3
    exact (hb2.block _ (by rw [World.size_alloc, hszZ]; omega)).trans h3
  have m5 : w2.cell? ⟨w1.heap.size, 5, none⟩ = some (.int .i64 k) := cell_of_row w2 _ 5 _ _ _ hbm
  have HZ2 : Hid (Below w.heap.size w w2) := hZ.trans (hb2.mono hZ.size)
  clear hbm hb2 hZ HZ q0 q1 q2 q3 q4 q5 f5 hszZ
  go_wp2
  go_ret2
  exact ⟨rfl, HZ2.out⟩
set_option maxRecDepth 8000 in
set_option maxHeartbeats 2000000 in
theorem part_z0t1 (e s p i n z : Nat) (b o : Nat) (xs : List Nat) (w : World) (hx : xs.length = 128) (hb : BIn w (some ⟨b, o, none⟩) xs) (hm : markOfN xs = .agg #[.int .u32 e, .int .u32 s, .int .u32 p, .int .i64 i, .int .i64 n, .int .i64 112]) (hi : i < 256) (hn : n < 256) (h1 : i + 1 < n) :
    Calls Try.prog 67 #[.slice (some ⟨b, o, none⟩) 128 128, markV e s p i n z] w fun x w' => x = .returned (.tuple #[.slice (some ⟨b, o + 16, none⟩) (16 + 112 - 16) (128 - 16), .bool true]) ∧ Below w.heap.size w w' := by
  have HI : Hid (i < 256 ∧ n < 256) := ⟨hi, hn⟩
  have HP : Hid (placeN i n = 0) := by show _ = _; unfold placeN; rw [if_pos h1]
  clear hi hn h1
  have HX : Hid (xs.length = 128) := hx
  have HB : Hid (BIn w (some ⟨b, o, none⟩) xs) := hb
  have HM : Hid (markOfN xs = .agg #[.int .u32 e, .int .u32 s, .int .u32 p, .int .i64 i, .int .i64 n, .int .i64 112]) := hm
  clear hx hb hm
  unfold markV
  go_enter Try.func67, Try.ntmps67
  go_wp2_with fail
  refine (markOf_any (some ⟨b, o, none⟩) xs 128 128 _ HX.out.symm (by have := HX.out; omega) (Nat.le_refl _) (HB.out.alloc _)).mono ?_
  rintro x w1 ⟨ex, hb1⟩
  rw [HM.out] at ex
  subst ex
  have hbw : Below (w.alloc (.cells #[.int .u32 e, .int .u32 s, .int .u32 p, .int .i64 i, .int .i64 n, .int .i64 z] 116)).heap.size (w.alloc (.cells #[.int .u32 e, .int .u32 s, .int .u32 p, .int .i64 i, .int .i64 n, .int .i64 z] 116)) w1 := hb1
  have hbx : w1.heap[w.heap.size]? = some (.cells #[.int .u32 e, .int .u32 s, .int .u32 p, .int .i64 i, .int .i64 n, .int .i64 z] 116 (0, 0)) := (hbw.block _ (by simp)).trans (heap_alloc_new w _)
  have hlt : w.heap.size < w1.heap.size := lt_heap hbx
  have q0 : w1.cell? ⟨w.heap.size, 0, none⟩ = some (.int .u32 e) := cell_of_row w1 _ 0 _ _ _ hbx
  have q1 : w1.cell? ⟨w.heap.size, 1, none⟩ = some (.int .u32 s) := cell_of_row w1 _ 1 _ _ _ hbx
  have q2 : w1.cell? ⟨w.heap.size, 2, none⟩ = some (.int .u32 p) := cell_of_row w1 _ 2 _ _ _ hbx
  have q3 : w1.cell? ⟨w.heap.size, 3, none⟩ = some (.int .i64 i) := cell_of_row w1 _ 3 _ _ _ hbx
  have q4 : w1.cell? ⟨w.heap.size, 4, none⟩ = some (.int .i64 n) := cell_of_row w1 _ 4 _ _ _ hbx
  have q5 : w1.cell? ⟨w.heap.size, 5, none⟩ = some (.int .i64 z) := cell_of_row w1 _ 5 _ _ _ hbx
  have f5 : w1.frozen? ⟨w.heap.size, 5, none⟩ = false := by simp [World.frozen?, hbx]
  have HW1 : Hid (Below w.heap.size w w1) := (below_alloc w _).trans (hbw.mono (by simp))
  have HZ : Hid (Below w.heap.size w ((w1.setCell ⟨w.heap.size, 5, none⟩ (.int .i64 112)).alloc (.cells #[.int .u32 e, .int .u32 s, .int .u32 p, .int .i64 i, .int .i64 n, .int .i64 112] 116))) := (HW1.out.setCell (Nat.le_refl _) _).alloc (by simp [World.setCell]; omega) _
  clear hbx hbw hb1
  go_wp2_with fail
  refine (place_any e s p i n 112 0 _ HI.out.1 HI.out.2 HP.out).mono ?_
  rintro x w2 ⟨ex, hb2⟩
  subst ex
  have hZ := HZ.out
  have hsz2 := hb2.size
  have hszZ : (w1.setCell ⟨w.heap.size, 5, none⟩ (.int .i64 112)).heap.size = w1.heap.size := by simp [World.setCell]
  have hbm : w2.heap[w1.heap.size]? = some (.cells #[.int .u32 e, .int .u32 s, .int .u32 p, .int .i64 i, .int .i64 n, .int .i64 112] 116 (0, 0)) := by
    have h3 := heap_alloc_new (w1.setCell ⟨w.heap.size, 5, none⟩ (.int .i64 112)) (.cells #[.int .u32 e, .int .u32 s, .int .u32 p, .int .i64 i, .int .i64 n, .int .i64 112] 116)
    rw [hszZ] at h3
    exact (hb2.block _ (by rw [World.size_alloc, hszZ]; omega)).trans h3
  have m5 : w2.cell? ⟨w1.heap.size, 5, none⟩ = some (.int .i64 112) := cell_of_row w2 _ 5 _ _ _ hbm
  have HZ2 : Hid (Below w.heap.size w w2) := hZ.trans (hb2.mono hZ.size)
  clear hbm hb2 hZ HZ q0 q1 q2 q3 q4 q5 f5 hszZ
  go_wp2_with fail
  refine (noughts_any _ [] _ _ true _ (by simp) (by simp) (by simp [maxLen]) (drop_in0 rfl) (by simp)).mono ?_
  rintro x w3 ⟨ex, ew⟩
  subst ex
  subst ew
  go_wp2
  go_ret2
  exact ⟨rfl, HZ2.out⟩
end Go.Proofs.Ytnajjfdbmdjcbaa
