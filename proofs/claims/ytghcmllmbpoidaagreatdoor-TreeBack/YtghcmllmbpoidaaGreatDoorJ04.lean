import Derived.Test.YtghcmllmbpoidaaGreatDoorJ03
import Derived.Lib.AppendZeros
import Derived.Shelf.Strconv.Itoa3
import Derived.Ground.NamesProg
import Derived.Test.YtghcmllmbpoidaaGreatDoorProg
import Derived.Deep.CutRange
import Derived.Deep.RegionWith
import Derived.BigQuiet
namespace Go.Proofs.YtghcmllmbpoidaaGreatDoor.Tr
open Go.RowKit Go.WideShapes
structure OnB (w0 : World) (v : Value) (xs : List Nat) (wr : World) : Prop where
  own : wr.ownsRow w0.heap.size 5 1 v xs.length (Bs xs)
  bel : Below w0.heap.size w0 wr
theorem OnB.next {w0 wr w' : World} {v : Value} {xs : List Nat} (h : OnB w0 v xs wr) (hb : Below wr.heap.size wr w') : OnB w0 v xs w' := ⟨own_below h.own hb, below_bt h.bel hb⟩
theorem OnB.app {w0 wr w' : World} {v v' : Value} {xs ys : List Nat} (h : OnB w0 v xs wr) (ho : w'.ownsRow w0.heap.size 5 1 v' (xs ++ ys).length (Bs (xs ++ ys))) (hg : wr.grownBy w' v.ownBlock) : OnB w0 v' (xs ++ ys) w' :=
  ⟨ho, h.bel.grown hg h.bel.size (fun k hk => (World.ownsRow.lt h.own k hk).1)⟩
theorem small_t (n : Nat) (w : World) (hn : (n : Int) ≤ 2147483647) : Calls Tryz.prog 25 #[.int .i64 (n : Int)] w fun e w' => ∃ v, e = .returned v ∧ w'.ownsRow w.heap.size 5 1 v (smallN n).length (Bs (smallN n)) ∧ Below w.heap.size w w' := by
  have hc := small_any n w (by omega)
  go_enter Tryz.func25, Tryz.ntmps25
  go_wp2_with (go_at_call 52; refine hc.mono ?_; rintro e w1 ⟨v, rfl, ho, hb⟩)
  go_ret
  exact ⟨v, rfl, ho, hb⟩
theorem one_byte (w : World) (c : Nat) (hc : c < 256) (g : Nat) (hg : g = w.heap.size) : BIn (w.alloc (.cells #[.int .u8 (c : Int)] 5)) (some ⟨g, 0, none⟩) [c] := bin_lit w g _ _ _ [c] hg rfl (by simpa using hc)
set_option maxRecDepth 8000 in
set_option maxHeartbeats 2000000 in
theorem appendChange_any (w0 : World) (v : Value) (xs : List Nat) (x : CV) (w : World) (hv : OnB w0 v xs w) (hk : x.key.size ≤ 256) (hl : x.val.size ≤ 4096) (hx : xs.length ≤ 1000000) (R : List Nat) (hR : recB x = R) :
    Calls Tryz.prog 28 #[v, .agg #[.string x.key, .string x.val, .bool x.gone]] w fun e w' => ∃ v', e = .returned v' ∧ OnB w0 v' (xs ++ R) w' := by
  obtain ⟨key, val, gone⟩ := x
  simp only at hk hl
  have HBX : Hid ((w.alloc (.cells #[.string key, .string val, .bool gone] 40)).heap[w.heap.size]? = some (.cells #[.string key, .string val, .bool gone] 40 (0, 0))) := heap_alloc_new _ _
  have HV : Hid (OnB w0 v xs (w.alloc (.cells #[.string key, .string val, .bool gone] 40))) := hv.next (below_alloc _ _)
  have HT := text_any key (w.alloc (.cells #[.string key, .string val, .bool gone] 40)) (by omega)
  obtain ⟨T, hT⟩ : ∃ T, textN key = T := ⟨_, rfl⟩
  have HTL : Hid (T.length ≤ 5000 ∧ ∀ c ∈ T, c < 256) := ⟨by rw [← hT]; have := textN_len key (by omega); omega, by rw [← hT]; exact textN_bytes key⟩
  have HR : Hid (textN key ++ (if gone = true then [1] else 0 :: textN val) = R) := hR
  rw [hT] at HT HR
  have HS : Hid (xs.length ≤ 1000000 ∧ val.size ≤ 4096) := ⟨hx, hl⟩
  obtain ⟨xq, xm, rfl, _⟩ := own_form hv.own
  obtain ⟨xl, hxl⟩ : ∃ n, xs.length = n := ⟨_, rfl⟩
  have HXL : Hid (xs.length = xl) := hxl
  rw [hxl] at HV ⊢
  obtain ⟨b0, b1, b2⟩ := three_cells HBX.out
  clear hv hk hl hx hR hT hxl
  go_enter Tryz.func28, Tryz.ntmps28
  go_wp2_with fail
  refine HT.mono ?_
  rintro e w1 ⟨tv, rfl, hto, hb1⟩
  obtain ⟨tq, tm, rfl, _, _, htn⟩ := own_form hto
  obtain ⟨tl, htl⟩ : ∃ n, T.length = n := ⟨_, rfl⟩
  have H1 : Hid (OnB w0 (.slice xq xl xm) xs w1 ∧ BIn w1 tq T ∧ (tq = none → tm = 0) ∧ tl = T.length) := ⟨HV.out.next hb1, own_in hto HTL.out.2, htn, htl.symm⟩
  have HB1 : Hid (w1.heap[w.heap.size]? = some (.cells #[.string key, .string val, .bool gone] 40 (0, 0))) := (hb1.block _ (lt_heap HBX.out)).trans HBX.out
  rw [htl]
  clear HT hto hb1 htn htl b0 b1 b2
  have HF : Hid (∀ w2, w1.grownBy w2 (Value.slice xq xl xm).ownBlock → w2.heap[w.heap.size]? = some (.cells #[.string key, .string val, .bool gone] 40 (0, 0))) := by
    intro w2 hg
    rw [hg.block _ (lt_heap HB1.out) ?_]
    · exact HB1.out
    · intro e
      have h2 := H1.out.1.own
      obtain ⟨h2a, h2b⟩ := h2
      rcases h2b with ⟨hv, _⟩ | ⟨g, cap, cur, hv, _, hg2, _⟩
      · rw [hv] at e; cases e
      · rw [hv] at e
        simp only [Value.ownBlock, Option.some.injEq] at e
        subst e
        rw [HB1.out] at hg2
        simp at hg2
  cases gone with
  | true =>
    go_wp2_with (first
      | (at_builtin; have q := H2.out; clear q; (refine wpList_append_bytes _ rfl _ _ rfl w0.heap.size v2 (xs ++ T) [1] (some ⟨w2.heap.size, 0, none⟩) 1 1 rfl rfl rfl (H2.out.next (below_alloc _ _)).own (one_byte w2 1 (by decide) _ rfl) (by simp) (by have := HS.out; have := HTL.out; simp only [List.length_append, List.length_cons, List.length_nil]; omega) (H2.out.next (below_alloc _ _)).bel.size ?_); intro v3 w3 ho3 hg3; have H3 : Hid (OnB w0 v3 (xs ++ T ++ [1]) w3) := (H2.out.next (below_alloc _ _)).app ho3 hg3; clear ho3 hg3)
      | (at_builtin; (refine wpList_append_bytes _ rfl _ _ rfl w0.heap.size (.slice xq xl xm) xs T tq tl tm rfl rfl H1.out.2.2.2 H1.out.1.own H1.out.2.1 H1.out.2.2.1 (by have := HS.out; have := HTL.out; omega) H1.out.1.bel.size ?_); intro v2 w2 ho2 hg2; have H2 : Hid (OnB w0 v2 (xs ++ T) w2) := H1.out.1.app ho2 hg2; have HB2 : Hid _ := HF.out w2 hg2; obtain ⟨b0, b1, b2⟩ := three_cells HB2.out; clear ho2 hg2))
    go_ret
    refine ⟨v3, rfl, ?_⟩
    have e := HR.out
    simp only [if_true] at e
    rw [← e, ← List.append_assoc]
    exact H3.out
  | false =>
    have HTV : Hid (∀ w', Calls Tryz.prog 56 #[.string val] w' fun e w'' => ∃ v, e = .returned v ∧ w''.ownsRow w'.heap.size 5 1 v (textN val).length (Bs (textN val)) ∧ Below w'.heap.size w' w'') := fun w' => text_any val w' (by have := HS.out; omega)
    have HVL : Hid ((textN val).length ≤ 5000) := by have := textN_len val HS.out.2; show _ ≤ _; omega
    have HF2 : Hid (∀ w2 w3 v2, OnB w0 v2 (xs ++ T) w2 → w2.heap[w.heap.size]? = some (.cells #[.string key, .string val, .bool false] 40 (0, 0)) → w2.grownBy w3 v2.ownBlock → w3.heap[w.heap.size]? = some (.cells #[.string key, .string val, .bool false] 40 (0, 0))) := by
      intro w2 w3 v2 hon hb hg
      rw [hg.block _ (lt_heap hb) ?_]
      · exact hb
      · intro e
        obtain ⟨h2a, h2b⟩ := hon.own
        rcases h2b with ⟨hv, _⟩ | ⟨g, cap, cur, hv, _, hg2, _⟩
        · rw [hv] at e; cases e
        · rw [hv] at e
          simp only [Value.ownBlock, Option.some.injEq] at e
          subst e
          rw [hb] at hg2
          simp at hg2
    go_wp2_with (first
      | (at_builtin; have q := H2.out; clear q; (refine wpList_append_bytes _ rfl _ _ rfl w0.heap.size v2 (xs ++ T) [0] (some ⟨w2.heap.size, 0, none⟩) 1 1 rfl rfl rfl H2.out.own (one_byte w2 0 (by decide) _ rfl) (by simp) (by have := HS.out; have := HTL.out; simp only [List.length_append, List.length_cons, List.length_nil]; omega) H2.out.bel.size ?_); intro v3 w3 ho3 hg3; have H3 : Hid (OnB w0 v3 (xs ++ T ++ [0]) w3) := H2.out.app ho3 hg3; have HB3 : Hid _ := HF2.out _ w3 _ H2.out HB2.out hg3; obtain ⟨c0, c1, c2⟩ := three_cells HB3.out; clear ho3 hg3)
      | (at_builtin; (refine wpList_append_bytes _ rfl _ _ rfl w0.heap.size (.slice xq xl xm) xs T tq tl tm rfl rfl H1.out.2.2.2 H1.out.1.own H1.out.2.1 H1.out.2.2.1 (by have := HS.out; have := HTL.out; omega) H1.out.1.bel.size ?_); intro v2 w2 ho2 hg2; have H2 : Hid (OnB w0 v2 (xs ++ T) (w2.alloc (.cells #[.int .u8 0] 5))) := (H1.out.1.app ho2 hg2).next (below_alloc _ _); have HB2 : Hid ((w2.alloc (.cells #[.int .u8 0] 5)).heap[w.heap.size]? = some (.cells #[.string key, .string val, .bool false] 40 (0, 0))) := ((below_alloc w2 _).block _ (lt_heap (HF.out w2 hg2))).trans (HF.out w2 hg2); obtain ⟨b0, b1, b2⟩ := three_cells (HF.out w2 hg2); clear ho2 hg2))
    refine (HTV.out _).mono ?_
    rintro e w4 ⟨uv, rfl, huo, hb4⟩
    obtain ⟨uq, um, rfl, _, _, hun⟩ := own_form huo
    obtain ⟨ul, hul⟩ : ∃ n, (textN val).length = n := ⟨_, rfl⟩
    have H4 : Hid (OnB w0 v3 (xs ++ T ++ [0]) w4 ∧ BIn w4 uq (textN val) ∧ (uq = none → um = 0) ∧ ul = (textN val).length) := ⟨H3.out.next hb4, own_in huo (textN_bytes val), hun, hul.symm⟩
    rw [hul]
    clear huo hb4 hun hul
    go_wp2_with (at_builtin; (refine wpList_append_bytes _ rfl _ _ rfl w0.heap.size v3 (xs ++ T ++ [0]) (textN val) uq ul um rfl rfl H4.out.2.2.2 H4.out.1.own H4.out.2.1 H4.out.2.2.1 (by have := HS.out; have := HTL.out; have := HVL.out; simp only [List.length_append, List.length_cons, List.length_nil]; omega) H4.out.1.bel.size ?_); intro v5 w5 ho5 hg5; have H5 : Hid (OnB w0 v5 (xs ++ T ++ [0] ++ textN val) w5) := H4.out.1.app ho5 hg5; clear ho5 hg5)
    go_ret
    refine ⟨v5, rfl, ?_⟩
    have e := HR.out
    simp only [Bool.false_eq_true, if_false] at e
    have e2 : xs ++ R = xs ++ T ++ [0] ++ textN val := by rw [← e]; simp
    rw [e2]
    exact H5.out
theorem zeros_own (w : World) (n : Nat) (h1 : 1 ≤ n) (h2 : n ≤ 10000) : ∃ c v' w', (Builtin.append_ #[32, 3] 32 #[.slice none 0 0, .int .i64 (n : Int)]).run Tryz.prog w = .ok v' w' ∧ v' = .slice (some ⟨w.heap.size, 0, none⟩) n c ∧ n ≤ c ∧ c ≤ maxLen ∧ OnB w (.slice (some ⟨w.heap.size, 0, none⟩) 0 c) [] w' := by
  obtain ⟨i0, hi, hz0, hz1, hz2⟩ := info_parts' info5
  have hr := Lib.run_append_nil_zeros (P := Tryz.prog) w 32 3 32 5 i0 _ .i64 .i64 Tryz.underlying32 Tryz.underlying3 hi hz0 n (by omega) (by omega) (by omega) (by rw [hz2]; omega)
  have hge := grownCap_ge w n 0 5
  have hle := grownCap_le_maxLen w n 0 5 (by unfold maxLen; omega)
  refine ⟨grownCap w n 0 5, _, _, hr, rfl, hge, hle, ?_, ((Below.refl _ _).drew).alloc (by simp) _⟩
  refine ⟨rfl, .inr ⟨w.heap.size, grownCap w n 0 5, _, rfl, Nat.le_refl _, heap_alloc_new w.drew _, Nat.zero_le _, hle, ?_, by simp [Bs]⟩⟩
  rw [Array.size_append, size_zeroCells, size_zeroCells]
  simp only [Value.cells]
  show n * 1 + (grownCap w n 0 5 - n) * 1 = _
  omega
set_option maxHeartbeats 1000000 in
set_option maxRecDepth 8000 in
theorem grow_any (n : Nat) (w : World) (h1 : 1 ≤ n) (h2 : n ≤ 10000) :
    Calls Tryz.prog 51 #[.slice none 0 0, .int .i64 (n : Int)] w fun e w' => ∃ c, e = .returned (.slice (some ⟨w.heap.size, 0, none⟩) 0 c) ∧ OnB w (.slice (some ⟨w.heap.size, 0, none⟩) 0 c) [] w' := by
  obtain ⟨c, v', w', hr, hv, hn, hc, hon⟩ := zeros_own w n h1 h2
  have HON : Hid (OnB w (.slice (some ⟨w.heap.size, 0, none⟩) 0 c) [] w') := hon
  have hnI : (1 : Int) ≤ (n : Int) := by omega
  have hnI2 : (n : Int) ≤ 10000 := by omega
  have hcI : (n : Int) ≤ (c : Int) := by omega
  subst hv
  clear hon h1 h2 hn hc
  go_enter Tryz.func51, Tryz.ntmps51
  go_wp2_with (at_builtin; refine Lib.wpList_append_run _ rfl _ _ _ _ rfl _ _ rfl rfl _ _ hr ?_)
  go_ret
  exact ⟨c, rfl, HON.out⟩
set_option maxHeartbeats 2000000 in
theorem concat_any (g : Nat) (q1 q2 : Option Addr) (n1 n2 c1 c2 : Nat) (l1 l2 : List Nat) (w : World) (hg : w.heap[g]? = some (.cells #[.slice q1 n1 c1, .slice q2 n2 c2] 32 (0, 0))) (h1 : BIn w q1 l1) (h2 : BIn w q2 l2) (e1 : n1 = l1.length) (e2 : n2 = l2.length) (z1 : q1 = none → c1 = 0) (z2 : q2 = none → c2 = 0) (hs : 1 ≤ n1 + n2) (hm : n1 + n2 ≤ 5000) :
    Calls Tryz.prog 24 #[.slice (some ⟨g, 0, none⟩) 2 2] w fun e w' => ∃ v, e = .returned v ∧ OnB w v (l1 ++ l2) w' := by
  have g0 : w.cell? ⟨g, 0, none⟩ = some (.slice q1 n1 c1) := Lib.cell_of_heap hg 0
  have g1 : w.cell? ⟨g, 1, none⟩ = some (.slice q2 n2 c2) := Lib.cell_of_heap hg 1
  have HG : Hid (w.heap[g]? = some (.cells #[.slice q1 n1 c1, .slice q2 n2 c2] 32 (0, 0))) := hg
  obtain ⟨N, hN⟩ : ∃ N : Nat, n1 + n2 = N := ⟨_, rfl⟩
  have HGR := grow_any N w (by omega) (by omega)
  have HL : Hid (n1 = l1.length ∧ n2 = l2.length ∧ n1 + n2 ≤ 5000) := ⟨e1, e2, hm⟩
  have H1 : Hid (BIn w q1 l1) := h1
  have H2 : Hid (BIn w q2 l2) := h2
  have HZ : Hid ((q1 = none → c1 = 0) ∧ (q2 = none → c2 = 0)) := ⟨z1, z2⟩
  have b1 : (n1 : Int) ≤ 5000 := by omega
  have b2 : (n1 : Int) + (n2 : Int) ≤ 5000 := by omega
  have hNI : (n1 : Int) + (n2 : Int) = (N : Int) := by omega
  rw [← hNI] at HGR
  clear hg h1 h2 z1 z2 hs hm hN hNI e1 e2
  go_enter Tryz.func24, Tryz.ntmps24
  go_wp2
  refine wp_loop_rounds 3 ?_
  iterate 2 (rw [rounds_succ]; go_wp2)
  rw [rounds_succ]
  go_wp2_with fail
  refine HGR.mono ?_
  rintro e w2 ⟨c, rfl, hon⟩
  have HON : Hid (OnB w (.slice (some ⟨w.heap.size, 0, none⟩) 0 c) [] w2) := hon
  have HC : Hid (∀ u, Below w.heap.size w u → u.cell? ⟨g, 0, none⟩ = some (.slice q1 n1 c1) ∧ u.cell? ⟨g, 1, none⟩ = some (.slice q2 n2 c2)) := fun u hb => ⟨Lib.cell_of_heap ((hb.block _ (lt_heap HG.out)).trans HG.out) 0, Lib.cell_of_heap ((hb.block _ (lt_heap HG.out)).trans HG.out) 1⟩
  clear g0 g1 hon HGR
  obtain ⟨g0, g1⟩ := HC.out w2 HON.out.bel
  go_wp2
  refine wp_loop_rounds 3 ?_
  rw [rounds_succ]
  go_wp2_with (at_builtin; go_loud (refine wpList_append_bytes _ rfl _ _ rfl w.heap.size (.slice (some ⟨w.heap.size, 0, none⟩) 0 c) [] l1 q1 n1 c1 rfl rfl HL.out.1 HON.out.own (H1.out.below HON.out.bel) HZ.out.1 (by have := HL.out; simp only [List.length_nil]; omega) HON.out.bel.size ?_); intro va ua hoa hga; have HO1 : Hid (OnB w va ([] ++ l1) ua) := HON.out.app hoa hga; obtain ⟨g0, g1⟩ := HC.out ua HO1.out.bel; clear hoa hga)
  rw [rounds_succ]
  go_wp2_with (at_builtin; go_loud (refine wpList_append_bytes _ rfl _ _ rfl w.heap.size va ([] ++ l1) l2 q2 n2 c2 rfl rfl HL.out.2.1 HO1.out.own (H2.out.below HO1.out.bel) HZ.out.2 (by have := HL.out; simp only [List.length_append, List.length_nil]; omega) HO1.out.bel.size ?_); intro vb ub hob hgb; have HO2 : Hid (OnB w vb ([] ++ l1 ++ l2) ub) := HO1.out.app hob hgb; clear hob hgb)
  rw [rounds_succ]
  go_wp2
  go_ret
  exact ⟨vb, rfl, by have h := HO2.out; rw [List.nil_append] at h; exact h⟩
end Go.Proofs.YtghcmllmbpoidaaGreatDoor.Tr
namespace Go.Proofs.YtghcmllmbpoidaaGreatDoor
open Go.Shelf
def laysItoa_ren : Go.Shelf.Ren := ⟨fun | 171 => 27 | 243 => 55 | 246 => 87 | 283 => 119 | 284 => 120 | 285 => 121 | 286 => 122 | 129 => 158 | 317 => 157 | 318 => 159 | 319 => 160 | 320 => 161 | 337 => 213 | 338 => 214 | n => n, fun | 3 => 3 | 9 => 9 | 2 => 2 | 4 => 4 | 171 => 227 | 0 => 0 | 53 => 83 | 37 => 32 | 5 => 5 | 173 => 230 | 212 => 284 | 51 => 128 | 20 => 20 | 213 => 285 | 46 => 165 | 232 => 372 | 233 => 373 | n => n, fun | 17 => 1 | 18 => 2 | 19 => 3 | n => n⟩
theorem laysItoa : Go.Proofs.LaysM.n171 Tryz.prog laysItoa_ren := {
  mixed := by kernel_rfl
  f129 := Tryz.func158.trans (congrArg some (by kernel_rfl))
  f171 := Tryz.func27.trans (congrArg some (by kernel_rfl))
  f243 := Tryz.func55.trans (congrArg some (by kernel_rfl))
  f246 := Tryz.func87.trans (congrArg some (by kernel_rfl))
  f283 := Tryz.func119.trans (congrArg some (by kernel_rfl))
  f284 := Tryz.func120.trans (congrArg some (by kernel_rfl))
  f285 := Tryz.func121.trans (congrArg some (by kernel_rfl))
  f286 := Tryz.func122.trans (congrArg some (by kernel_rfl))
  f317 := Tryz.func157.trans (congrArg some (by kernel_rfl))
  f318 := Tryz.func159.trans (congrArg some (by kernel_rfl))
  f319 := Tryz.func160.trans (congrArg some (by kernel_rfl))
  f320 := Tryz.func161.trans (congrArg some (by kernel_rfl))
  f337 := Tryz.func213.trans (congrArg some (by kernel_rfl))
  f338 := Tryz.func214.trans (congrArg some (by kernel_rfl))
  t0 := Tryz.underlying0
  a0 := Tryz.isAgg0
  z0 := Tryz.sizeOf0
  v0 := Tryz.zeroValue0
  t2 := Tryz.underlying2
  a2 := Tryz.isAgg2
  z2 := Tryz.sizeOf2
  v2 := Tryz.zeroValue2
  t3 := Tryz.underlying3
  a3 := Tryz.isAgg3
  z3 := Tryz.sizeOf3
  v3 := Tryz.zeroValue3
  t4 := Tryz.underlying4
  a4 := Tryz.isAgg4
  z4 := Tryz.sizeOf4
  v4 := Tryz.zeroValue4
  t5 := Tryz.underlying5
  a5 := Tryz.isAgg5
  z5 := Tryz.sizeOf5
  v5 := Tryz.zeroValue5
  t9 := Tryz.underlying9
  a9 := Tryz.isAgg9
  z9 := Tryz.sizeOf9
  v9 := Tryz.zeroValue9
  t20 := Tryz.underlying20
  a20 := Tryz.isAgg20
  z20 := Tryz.sizeOf20
  v20 := Tryz.zeroValue20
  t37 := Tryz.underlying32
  a37 := Tryz.isAgg32
  z37 := Tryz.sizeOf32
  v37 := Tryz.zeroValue32
  t46 := Tryz.underlying165
  a46 := Tryz.isAgg165
  z46 := Tryz.sizeOf165
  v46 := Tryz.zeroValue165
  t51 := Tryz.underlying128
  a51 := Tryz.isAgg128
  z51 := Tryz.sizeOf128
  v51 := Tryz.zeroValue128
  t53 := Tryz.underlying83
  a53 := Tryz.isAgg83
  z53 := Tryz.sizeOf83
  v53 := Tryz.zeroValue83
  t171 := Tryz.underlying227
  a171 := Tryz.isAgg227
  z171 := Tryz.sizeOf227
  v171 := Tryz.zeroValue227
  t173 := Tryz.underlying230
  a173 := Tryz.isAgg230
  z173 := Tryz.sizeOf230
  v173 := Tryz.zeroValue230
  t212 := Tryz.underlying284
  a212 := Tryz.isAgg284
  z212 := Tryz.sizeOf284
  v212 := Tryz.zeroValue284
  t213 := Tryz.underlying285
  a213 := Tryz.isAgg285
  z213 := Tryz.sizeOf285
  t232 := Tryz.underlying372
  a232 := Tryz.isAgg372
  z232 := Tryz.sizeOf372
  v232 := Tryz.zeroValue372
  t233 := Tryz.underlying373
  a233 := Tryz.isAgg373
  z233 := Tryz.sizeOf373
  v233 := Tryz.zeroValue373
  g17 := by kernel_rfl
  g18 := by kernel_rfl
  g19 := by kernel_rfl
  i0 := by kernel_rfl
  i2 := by kernel_rfl
  i3 := by kernel_rfl
  i4 := by kernel_rfl
  i5 := by kernel_rfl
  i9 := by kernel_rfl
  i20 := by kernel_rfl
  i37 := by kernel_rfl
  i46 := by kernel_rfl
  i51 := by kernel_rfl
  i53 := by kernel_rfl
  i171 := by kernel_rfl
  i173 := by kernel_rfl
  i212 := by kernel_rfl
  i232 := by kernel_rfl
  i233 := by kernel_rfl
  m17 := by kernel_rfl
  m18 := by kernel_rfl
  m19 := by kernel_rfl }
end Go.Proofs.YtghcmllmbpoidaaGreatDoor
namespace Go.Proofs.YtghcmllmbpoidaaGreatDoor.Tr
open Go.RowKit Go.WideShapes Go.Shelf
theorem digits_small : ∀ i, i < 100 → (Lib.decDigits i).length ≤ 2 := by decide +kernel
theorem itoa_small (n : Nat) (hn : n < 100) (w : World) :
    Calls Tryz.prog 27 #[.int .i64 n] w fun e w' => ∃ s : ByteArray, e = .returned (.string s) ∧ s.size ≤ 2 ∧ w' = w := by
  refine (Any.strconv_Itoa_small { laysItoa with } n hn w).mono ?_
  rintro e w' ⟨rfl, rfl⟩
  exact ⟨_, rfl, by have := digits_small n hn; show (Lib.decDigits n).toArray.size ≤ 2; simpa using this, rfl⟩
theorem below_drC {w w' : World} (h : Below w.drew.heap.size w.drew w') : Below w.heap.size w w' := (Below.refl _ _).drew.trans (by simpa using h)
structure WrP (w : World) (r : Int × List Nat) (e : Ending) (w' : World) : Prop where
  ex : ∃ ev, e = .returned (.tuple #[.string (strOf r.2), ev]) ∧ ErrV ev r.1 ∧ Below w.heap.size w w'
set_option maxRecDepth 8000 in
set_option maxHeartbeats 4000000 in
theorem write_any (q : Option Addr) (n c : Nat) (l : List CV) (seq : Int) (w : World) (hq : CsIn w q l) (hn0 : n = l.length) (hnc : n ≤ c) (hnb : (n : Int) ≤ 9223372036854775807) (hs : ∀ x ∈ l, (x.key.size : Int) ≤ 9223372036854775807 ∧ (x.val.size : Int) ≤ 9223372036854775807) (r : Int × List Nat) (hr : writeE l seq = r) :
    Calls Tryz.prog 13 #[.slice q n c, .int .i64 seq] w fun e w' => WrP w r e w' := by
  have HR : Hid (writeE l seq = r) := hr
  by_cases h1 : seq < 1
  · have HE : Hid (r = (2, [])) := by show r = _; rw [← hr]; unfold writeE; rw [if_pos (.inl h1)]
    clear hq hn0 hr
    go_enter Tryz.func13, Tryz.ntmps13
    go_wp2
    go_ret2
    exact ⟨⟨_, by rw [HE.out]; rfl, by rw [HE.out]; exact .inr ⟨by decide, Faults.one _ _⟩, Below.refl _ _⟩⟩
  by_cases h2 : 2147483647 < seq
  · have h1I : 1 ≤ seq := by omega
    have HE : Hid (r = (2, [])) := by show r = _; rw [← hr]; unfold writeE; rw [if_pos (.inr h2)]
    clear hq hn0 hr h1
    go_enter Tryz.func13, Tryz.ntmps13
    go_wp2
    go_ret2
    exact ⟨⟨_, by rw [HE.out]; rfl, by rw [HE.out]; exact .inr ⟨by decide, Faults.one _ _⟩, Below.refl _ _⟩⟩
  have h1I : 1 ≤ seq := by omega
  have h2I : seq ≤ 2147483647 := by omega
  by_cases h3 : 64 < n
  · have h3I : (64 : Int) < (n : Int) := by omega
    have HE : Hid (r = (4, [])) := by show r = _; rw [← hr]; unfold writeE; rw [if_neg (by omega), if_pos (by omega)]
    clear hq hn0 hr h1 h2 h3
    go_enter Tryz.func13, Tryz.ntmps13
    go_wp2
    go_ret2
    exact ⟨⟨_, by rw [HE.out]; rfl, by rw [HE.out]; exact .inr ⟨by decide, Faults.one _ _⟩, Below.refl _ _⟩⟩
  by_cases h4 : n = 0
  · have HE : Hid (r = (6, [])) := by show r = _; rw [← hr]; unfold writeE; rw [if_neg (by omega), if_neg (by omega), if_pos (by omega)]
    subst h4
    clear hq hn0 hr h1 h2 h3
    go_enter Tryz.func13, Tryz.ntmps13
    go_wp2
    go_ret2
    exact ⟨⟨_, by rw [HE.out]; rfl, by rw [HE.out]; exact .inr ⟨by decide, Faults.one _ _⟩, Below.refl _ _⟩⟩
  have h3I : (n : Int) ≤ 64 := by omega
  have h4I : (1 : Int) ≤ (n : Int) := by omega
  have h4b : ((n : Int) == 0) = false := by simp; omega
  have HN : Hid (n = l.length ∧ 1 ≤ n ∧ n ≤ 64 ∧ n ≤ c) := ⟨hn0, by omega, by omega, hnc⟩
  have hncI : (n : Int) ≤ (c : Int) := by omega
  have HQ : Hid (CsIn w q l) := hq
  have HKS : Hid (∀ k, k < l.length → ((l.getD k zeroCV).key.size : Int) ≤ 9223372036854775807 ∧ ((l.getD k zeroCV).val.size : Int) ≤ 9223372036854775807) := by
    intro k hk
    refine hs _ ?_
    rw [List.getD_eq_getElem?_getD, List.getElem?_eq_getElem hk]
    exact List.getElem_mem _
  obtain ⟨S, hS⟩ : ∃ S : Nat, seq = (S : Int) := ⟨seq.toNat, by omega⟩
  subst hS
  have HRK : Hid (∀ k, k ≤ n → chgK l k ≠ 0 → r = (chgK l k, [])) := by
    intro k hk hc
    have e := chgK_stays l k hc l.length (by omega)
    rw [← HR.out]
    unfold writeE
    rw [if_neg (by omega), if_neg (by omega), if_neg (by omega), if_pos (by rw [e]; exact hc), e]
  have HRE : Hid (chgK l l.length = 0 → r = if 4096 < (smallN S ++ smallN n ++ recBs l).length then (3, []) else (0, smallN S ++ smallN n ++ recBs l)) := by
    intro hc
    rw [← HR.out]
    unfold writeE
    rw [if_neg (by omega), if_neg (by omega), if_neg (by omega), if_neg (by omega)]
    unfold recN
    rw [← HN.out.1, List.append_assoc, Int.toNat_natCast]
  have HS1 := small_t S w h2I
  have HS2 : Hid (∀ w', Calls Tryz.prog 25 #[.int .i64 (n : Int)] w' fun e w'' => ∃ v, e = .returned v ∧ w''.ownsRow w'.heap.size 5 1 v (smallN n).length (Bs (smallN n)) ∧ Below w'.heap.size w' w'') := fun w' => small_t n w' (by omega)
  have HSL : Hid ((smallN S).length ≤ 10 ∧ (smallN n).length ≤ 10 ∧ 1 ≤ (smallN S).length) := ⟨smallN_ten S (by omega), smallN_ten n (by omega), smallN_pos S⟩
  clear hr hq hn0 hnc hnb hs h1 h2 h3 h4
  go_enter Tryz.func13, Tryz.ntmps13
  go_wp2_with fail
  refine HS1.mono ?_
  rintro e w1 ⟨v1, rfl, ho1, hb1⟩
  obtain ⟨q1, m1, rfl, _, _, z1⟩ := own_form ho1
  obtain ⟨l1, hl1⟩ : ∃ m, (smallN S).length = m := ⟨_, rfl⟩
  have HO1 : Hid (BIn w1 q1 (smallN S) ∧ (q1 = none → m1 = 0) ∧ l1 = (smallN S).length ∧ Below w.heap.size w w1) := ⟨own_in ho1 (smallN_bytes _), z1, hl1.symm, hb1⟩
  rw [hl1]
  clear ho1 hb1 z1 hl1 HS1
  go_wp2_with fail
  refine (HS2.out _).mono ?_
  rintro e w2 ⟨v2, rfl, ho2, hb2⟩
  obtain ⟨q2, m2, rfl, _, _, z2⟩ := own_form ho2
  obtain ⟨l2, hl2⟩ : ∃ m, (smallN n).length = m := ⟨_, rfl⟩
  have HO2 : Hid (BIn w2 q1 (smallN S) ∧ BIn w2 q2 (smallN n) ∧ (q2 = none → m2 = 0) ∧ l2 = (smallN n).length ∧ Below w.heap.size w w2) := ⟨HO1.out.1.below hb2, own_in ho2 (smallN_bytes _), z2, hl2.symm, below_bt HO1.out.2.2.2 hb2⟩
  rw [hl2]
  clear ho2 hb2 z2 hl2 HS2
  have HCC := concat_any w2.heap.size q1 q2 l1 l2 m1 m2 (smallN S) (smallN n) (w2.alloc (.cells #[.slice q1 l1 m1, .slice q2 l2 m2] 32)) (heap_alloc_new _ _) (HO2.out.1.below (below_alloc _ _)) (HO2.out.2.1.below (below_alloc _ _)) HO1.out.2.2.1 HO2.out.2.2.2.1 HO1.out.2.1 HO2.out.2.2.1 (by have := HSL.out; have := HO1.out.2.2.1; omega) (by have := HSL.out; have := HO1.out.2.2.1; have := HO2.out.2.2.2.1; omega)
  go_wp2_with fail
  refine HCC.mono ?_
  rintro e w3 ⟨bv, rfl, hbv⟩
  obtain ⟨P, hP⟩ : ∃ P, smallN S ++ smallN n = P := ⟨_, rfl⟩
  have HPL : Hid (P.length ≤ 20 ∧ ∀ c ∈ P, c < 256) := ⟨by rw [← hP, List.length_append]; have := HSL.out; omega, by rw [← hP]; intro c hc; rcases List.mem_append.1 hc with h | h <;> exact smallN_bytes _ c h⟩
  have HBV : Hid (OnB w bv (P ++ recBs (l.take 0)) w3) := by
    have hbw := below_bt HO2.out.2.2.2.2 (below_alloc w2 (.cells #[.slice q1 l1 m1, .slice q2 l2 m2] 32))
    have e : P ++ recBs (l.take 0) = smallN S ++ smallN n := by rw [← hP]; simp [recBs]
    rw [e]
    exact ⟨own_mono hbv.own hbw.size, below_bt hbw hbv.bel⟩
  rw [hP] at HRE
  obtain ⟨bq, bm, rfl, _⟩ := own_form hbv.own
  obtain ⟨BL, hBL⟩ : ∃ m, (smallN S ++ smallN n).length = m := ⟨_, rfl⟩
  rw [hBL] at HBV ⊢
  clear HCC hbv hP HO1 HO2 HSL hBL
  go_wp2
  go_loopw [6, 40] (fun v i wr => ∃ k : Nat, k ≤ n ∧ i = .int .i64 (k : Int) ∧ chgK l k = 0 ∧ OnB w v (P ++ recBs (l.take k)) wr) (fun _ i _ => n - (intOf i).toNat)
  case atStart => exact ⟨0, by omega, rfl, rfl, HBV.out⟩
  case round =>
    obtain ⟨k, hk, rfl, hck, hon⟩ := hrel
    have HCK : Hid (chgK l k = 0) := hck
    obtain ⟨X, hX⟩ : ∃ X, P ++ recBs (l.take k) = X := ⟨_, rfl⟩
    have HX : Hid (P ++ recBs (l.take k) = X) := hX
    rw [hX] at hon
    obtain ⟨vq, vm, rfl, _⟩ := own_form hon.own
    obtain ⟨XL, hXL⟩ : ∃ m, X.length = m := ⟨_, rfl⟩
    have HXLN : Hid (X.length = XL) := hXL
    rw [hXL] at hon
    have HON : Hid (OnB w (.slice vq XL vm) X wr) := hon
    rw [hXL]
    clear HBV hX hck hXL
    by_cases hkn : k < n
    · have hkI : (k : Int) < (n : Int) := by omega
      have k0 : (0 : Int) ≤ (k : Int) := by omega
      have hkc : (k : Int) ≤ (c : Int) := by omega
      have HKN : Hid (k < n) := hkn
      have hkl : k < l.length := by have := HN.out.1; omega
      have hen := HQ.out.below hon.bel
      obtain ⟨fb, fo, rfl⟩ := hen.addr (by omega)
      obtain ⟨z0, z1, z2⟩ := hen.at hkl
      have HSZ : Hid _ := HKS.out k hkl
      have HNX : Hid (oneW (l.take k) (l.getD k zeroCV) = 0 → chgK l (k + 1) = 0 ∧ recBs (l.take (k + 1)) = recBs (l.take k) ++ recB (l.getD k zeroCV) ∧ (l.getD k zeroCV).key.size ≤ 256 ∧ (l.getD k zeroCV).val.size ≤ 4096) := fun h => ⟨(chgK_step l k HCK.out).trans h, recBs_take l hkl, (oneW_zero h).2.1, (oneW_zero h).2.2.1⟩
      have HXL : Hid (X.length ≤ 1000000) := by
        show _ ≤ _
        rw [← HX.out, List.length_append]
        have h1 := recBs_len (l := l) k (by omega) HCK.out
        have h2 := HPL.out.1
        have h3 := HN.out
        omega
      obtain ⟨E, hE⟩ : ∃ E, oneW (l.take k) (l.getD k zeroCV) = E := ⟨_, rfl⟩
      have HER : Hid (E ≠ 0 → r = (E, [])) := fun h => by
        have := HRK.out (k + 1) (by omega) (by rw [chgK_step l k HCK.out, hE]; exact h)
        rw [chgK_step l k HCK.out, hE] at this
        exact this
      rw [hE] at HNX
      obtain ⟨x, hc⟩ : ∃ x, l.getD k zeroCV = x := ⟨_, rfl⟩
      rw [hc] at z0 z1 z2 HSZ HNX hE
      obtain ⟨wA, hwA⟩ : ∃ wA, wr.alloc (.cells #[.string x.key, .string x.val, .bool x.gone] 40) = wA := ⟨_, rfl⟩
      have HBK : Hid (wA.heap[wr.heap.size]? = some (.cells #[.string x.key, .string x.val, .bool x.gone] 40 (0, 0))) := by show _ = _; rw [← hwA]; exact heap_alloc_new _ _
      have HA : Hid (OnB w (.slice vq XL vm) X wA) := by show OnB _ _ _ _; rw [← hwA]; exact hon.next (below_alloc _ _)
      have HCH : Hid (∀ w', Below wA.heap.size wA w' → Calls Tryz.prog 26 #[.slice (some ⟨fb, fo, none⟩) k c, .agg #[.string x.key, .string x.val, .bool x.gone]] w' fun e w'' => ∃ ev, e = .returned ev ∧ ErrV ev E ∧ Below w'.heap.size w' w'') := fun w' hb' => checkChange_any (some ⟨fb, fo, none⟩) k c (l.take k) x w' ((HQ.out.take k).below (below_bt HA.out.bel hb')) (by rw [List.length_take]; omega) (by omega) HSZ.out.1 HSZ.out.2 E hE
      have HAC : Hid (∀ w', OnB w (.slice vq XL vm) X w' → E = 0 → Calls Tryz.prog 28 #[.slice vq XL vm, .agg #[.string x.key, .string x.val, .bool x.gone]] w' fun e w'' => ∃ v', e = .returned v' ∧ OnB w v' (X ++ recB x) w'') := fun w' h he => appendChange_any w (.slice vq XL vm) X x w' h (HNX.out he).2.2.1 (HNX.out he).2.2.2 HXL.out _ rfl
      obtain ⟨key, val, gone⟩ := x
      simp only at z0 z1 z2 hwA HBK HCH HAC
      obtain ⟨y0, y1, y2⟩ := three_cells HBK.out
      clear hen hkn hk hkl hc hE hon HKS
      go_upto_region 11 with fail
      (try rw [hwA])
      clear hwA z0 z1 z2
      go_region_with (go_at_call 26; refine (HCH.out _ (by first | exact (Below.refl _ _).drew | exact Below.refl _ _)).mono ?_; rintro e w6 ⟨ev, rfl, hev, hb6⟩)
      all_goals
        have HB6 : Hid (Below wA.heap.size wA w6) := by first | exact hb6 | exact below_drC hb6
        have HO6 : Hid (OnB w (.slice vq XL vm) X w6) := HA.out.next HB6.out
        obtain ⟨x0, x1, x2⟩ := three_cells ((HB6.out.block _ (lt_heap HBK.out)).trans HBK.out)
        clear hb6 HCH y0 y1 y2
        rcases hev with ⟨he, rfl⟩ | ⟨he, hfa⟩
        · have hac := HAC.out w6 HO6.out he
          have HE0 : Hid (E = 0) := he
          clear he HAC
          go_wp2_with fail
          refine hac.mono ?_
          rintro e w7 ⟨v7, rfl, hon7⟩
          have H7 : Hid (OnB w v7 (P ++ recBs (l.take (k + 1))) w7) := by
            show OnB _ _ _ _
            rw [(HNX.out HE0.out).2.1, ← List.append_assoc, HX.out]
            exact hon7
          obtain ⟨aq, am, rfl, _⟩ := own_form hon7.own
          obtain ⟨AL, hAL⟩ : ∃ m, (X ++ recB ⟨key, val, gone⟩).length = m := ⟨_, rfl⟩
          rw [hAL] at H7 ⊢
          clear hon7 hac hAL
          go_wp2
          go_roundw
          case rel => exact ⟨k + 1, HKN.out, by go_num, (HNX.out HE0.out).1, H7.out⟩
          case measure => have := HKN.out; simp [intOf]; omega
        · have HFA : Hid (Faults ev E ∧ E ≠ 0) := ⟨hfa, he⟩
          obtain ⟨T, vv, rfl⟩ := hfa.iface
          have hit := itoa_small k (by have := HN.out; have := HKN.out; omega) w6
          clear he HAC hfa
          go_wp2_with fail
          refine hit.mono ?_
          rintro e w7 ⟨t, rfl, ht, rfl⟩
          have hcat : (Op.stringOp .add (⟨#[99, 104, 97, 110, 103, 101, 32]⟩ : ByteArray) t).run Tryz.prog w7 = .ok (.string ((⟨#[99, 104, 97, 110, 103, 101, 32]⟩ : ByteArray) ++ t)) w7 := run_string_add_sum w7 _ _ (by show 7 + t.size ≤ _; omega)
          clear hit ht
          go_wp2
          go_ret2
          exact ⟨⟨_, by rw [HER.out HFA.out.2]; rfl, by rw [HER.out HFA.out.2]; exact .inr ⟨HFA.out.2, .more _ HFA.out.1⟩, HO6.out.bel⟩⟩
    · have hkI : (n : Int) ≤ (k : Int) := by omega
      obtain rfl : k = n := by omega
      have HC0 : Hid (chgK l l.length = 0) := by show _ = _; rw [← HN.out.1]; exact HCK.out
      have HXX : Hid (P ++ recBs l = X) := by
        show _ = _
        rw [← HX.out, HN.out.1, List.take_length]
      have HRR : Hid (r = if 4096 < X.length then (3, []) else (0, X)) := by
        show _ = _
        rw [← HXX.out]
        exact HRE.out HC0.out
      have HXB : Hid (∀ c ∈ X, c < 256) := by
        intro c hc
        rw [← HXX.out] at hc
        rcases List.mem_append.1 hc with h | h
        · exact HPL.out.2 c h
        · exact recBs_bytes l c h
      have hcv : (convert 32 9 (.slice vq XL vm)).run Tryz.prog wr = .ok (.string (strOf X)) wr := conv_at (own_in hon.own HXB.out) HXLN.out.symm
      rw [HXLN.out] at HRR
      clear hkn hk hon
      by_cases hlong : 4096 < XL
      · have hlI : (4096 : Int) < (XL : Int) := by omega
        have HE : Hid (r = (3, [])) := HRR.out.trans (if_pos hlong)
        clear hlong hcv
        go_wp2
        go_ret2
        exact ⟨⟨_, by rw [HE.out]; rfl, by rw [HE.out]; exact .inr ⟨by decide, Faults.one _ _⟩, HON.out.bel⟩⟩
      · have hlI : (XL : Int) ≤ 4096 := by omega
        have HE : Hid (r = (0, X)) := HRR.out.trans (if_neg hlong)
        clear hlong
        go_wp2
        go_ret2
        exact ⟨⟨_, by rw [HE.out]; rfl, by rw [HE.out]; exact .inl ⟨rfl, rfl⟩, HON.out.bel⟩⟩
set_option maxRecDepth 8000 in
theorem Write_any (q : Option Addr) (n c : Nat) (l : List CV) (seq : Int) (w : World) (hq : CsIn w q l) (hn0 : n = l.length) (hnc : n ≤ c) (hnb : (n : Int) ≤ 9223372036854775807) (hs : ∀ x ∈ l, (x.key.size : Int) ≤ 9223372036854775807 ∧ (x.val.size : Int) ≤ 9223372036854775807) (r : Int × List Nat) (hr : writeE l seq = r) :
    Calls Tryz.prog 6 #[.slice q n c, .int .i64 seq] w fun e w' => e = .returned (.tuple #[.string (strOf r.2), .int .i64 r.1]) ∧ Below w.heap.size w w' := by
  have hw := write_any q n c l seq w hq hn0 hnc hnb hs r hr
  have HRG : Hid (0 ≤ r.1 ∧ r.1 ≤ 120) := by show _ ∧ _; rw [← hr]; exact writeE_range l seq
  clear hq hn0 hnc hnb hs hr
  go_enter Tryz.func6, Tryz.ntmps6
  go_wp2_with fail
  refine hw.mono ?_
  rintro e w1 ⟨ev, rfl, hev, hb1⟩
  have HB : Hid (Below w.heap.size w w1) := hb1
  have hnum := numberOf_any ev r.1 hev HRG.out w1
  rcases hev with ⟨h0, rfl⟩ | ⟨_, hfa⟩
  · rw [h0] at hnum
    have H0 : Hid (r.1 = 0) := h0
    clear hw hb1 h0
    go_wp2_with fail
    refine hnum.mono ?_
    rintro e w2 ⟨rfl, hb2⟩
    go_wp2
    go_ret2
    exact ⟨by rw [H0.out]; rfl, below_bt HB.out hb2⟩
  · obtain ⟨T, vv, rfl⟩ := hfa.iface
    clear hw hb1 hfa
    go_wp2_with fail
    refine hnum.mono ?_
    rintro e w2 ⟨rfl, hb2⟩
    go_wp2
    go_ret2
    exact ⟨rfl, below_bt HB.out hb2⟩
end Go.Proofs.YtghcmllmbpoidaaGreatDoor.Tr
namespace Go.Proofs.YtghcmllmbpoidaaGreatDoor.Tr
open Go.RowKit Go.WideShapes
structure CRow (w : World) (g n cap : Nat) (xs : List Nat) : Prop where
  row : ∃ cur : Array Value, w.heap[g]? = some (.cells cur 5 (cap, cap + 1)) ∧ cur.size = cap ∧ cur.toList.take n = Bs xs
  len : n = xs.length
  le : n ≤ cap
  lt : ∀ c ∈ xs, c < 256
theorem CRow.bin {w : World} {g n cap : Nat} {xs : List Nat} (h : CRow w g n cap xs) : BIn w (some ⟨g, 0, none⟩) xs := by
  obtain ⟨cur, hg, hs, ht⟩ := h.row
  refine ⟨fun _ => ⟨g, 0, rfl, fun i hi => ?_⟩, h.lt⟩
  rw [Nat.zero_add, cell_of_row w g i cur 5 _ hg]
  have e : (cur.toList.take n)[i]? = (Bs xs)[i]? := by rw [ht]
  rw [List.getElem?_take_of_lt (by rw [h.len]; exact hi)] at e
  simp only [Array.getElem?_toList] at e
  rw [e]
  simp [Bs, List.getD, List.getElem?_eq_getElem hi]
theorem conv_row (s : ByteArray) (w : World) (hs : s.size ≤ 100000) : ∃ W cap, (convert 9 32 (.string s)).run Tryz.prog w = .ok (.slice (some ⟨w.heap.size, 0, none⟩) s.size cap) W ∧ Below w.heap.size w W ∧ CRow W w.heap.size s.size cap (numsOf s) ∧ cap ≤ maxLen := by
  refine ⟨_, _, Lib.run_convert_string_bytes w 9 32 5 s Tryz.underlying9 Tryz.underlying32 Tryz.underlying5, ⟨rfl, rfl, rfl, ?_, fun k hk => Lib.bytesWorld_at_old w 5 s k hk⟩, ⟨⟨Lib.bytesCells w 5 s, ?_, ?_, ?_⟩, (numsOf_len s).symm, grownCap_ge w s.size 0 5, numsOf_lt s⟩, grownCap_le_maxLen w s.size 0 5 (by unfold maxLen; omega)⟩
  · rw [Lib.bytesWorld_size]; omega
  · have hge := grownCap_ge w s.size 0 5
    have hsz : (Lib.bytesCells w 5 s).size = grownCap w s.size 0 5 := by
      unfold Lib.bytesCells; simp only [Array.size_append, Array.size_map, Array.size_replicate]
      have : s.data.size = s.size := rfl
      omega
    have := Lib.bytesWorld_at_new w 5 s
    rw [hsz] at this
    exact this
  · have hge := grownCap_ge w s.size 0 5
    unfold Lib.bytesCells; simp only [Array.size_append, Array.size_map, Array.size_replicate]
    have : s.data.size = s.size := rfl
    omega
  · unfold Lib.bytesCells Bs numsOf
    rw [Array.toList_append, List.take_left' (by simp)]
    simp
theorem cut_from (p : Option Addr) (n c k : Nat) (xs : List Nat) (hn : n = xs.length) (hc : n ≤ c) (hk : k ≤ n) (hp : p = none → c = 0) :
    ∃ p', (∀ w, (Instr.slice 32 (.slice p n c) (some (.int .i64 k)) none none).run Tryz.prog w = .ok (.slice p' (n - k) (c - k)) w) ∧ (∀ w, BIn w p xs → BIn w p' (xs.drop k)) ∧ (p' = none → c - k = 0) ∧ (∀ a', p' = some a' → ∃ a, p = some a ∧ a'.block = a.block) := by
  have hr : ∀ w, (Instr.slice 32 (.slice p n c) (some (.int .i64 k)) none none).run Tryz.prog w = .ok (.slice (if c = k then p else p.map (·.add (k * 1))) (n - k) (c - k)) w := by
    intro w
    rw [run_slice_l w 32 p n c (by kernel_rfl) .i64 k (by omega) (by omega)]
    have hs : (sizeOf (Tryz.prog.elem 32)).run Tryz.prog w = .ok 1 w := by kernel_rfl
    rw [hs]
    rfl
  cases p with
  | none =>
    have hc0 := hp rfl
    have : k = 0 := by omega
    subst this
    exact ⟨_, hr, fun w h => by rw [List.drop_zero, if_pos hc0]; exact h, fun _ => by omega, fun a' h => by split at h <;> simp at h⟩
  | some a =>
    refine ⟨_, hr, fun w h => ?_, fun h => by split at h <;> simp at h, fun a' h => ?_⟩
    · rcases Nat.eq_zero_or_pos xs.length with h0 | h0
      · refine ⟨fun hp => absurd hp (by rw [List.length_drop]; omega), fun c hc => h.2 c (List.mem_of_mem_drop hc)⟩
      obtain ⟨b, o, e, _⟩ := h.1 h0
      simp only [Option.some.injEq] at e
      subst e
      have := bin_part h c k (by omega) (xs.length - k)
      rw [List.take_of_length_le (by rw [List.length_drop]; omega)] at this
      have e2 : (if c = k then some (⟨b, o, none⟩ : Addr) else (some (⟨b, o, none⟩ : Addr)).map (·.add (k * 1))) = (if c = k then some ⟨b, o, none⟩ else some ⟨b, o + k, none⟩) := by
        split
        · rfl
        · rw [Option.map_some, add_plain, Nat.mul_one]
      rw [e2]
      exact this
    · split at h
      · exact ⟨a, rfl, by rw [Option.some.inj h]⟩
      · rw [Option.map_some] at h
        refine ⟨a, rfl, ?_⟩
        rw [← Option.some.inj h]
        simp only [Addr.add]
        split <;> rfl
theorem results_cell_tmp2 {fn : Func} {p u x : Tmp} {ty : TypeId} (h : fn.results = #[.cell p ty, .tmp u, .tmp x]) (tmps : Array Value) (P : Program) (w : World) :
    (results fn tmps).run P w = ((asAddr (tmps.getD p undef)).run P w).andThen fun a w₁ => ((loadVar ty a).run P w₁).andThen fun v w₂ => .ok (.tuple #[v, tmps.getD u undef, tmps.getD x undef]) w₂ := by
  simp only [results, h]
  simp [Sem.run_bind, Result.andThen]
theorem below_drewN {B : Nat} {a w : World} (h : Below B a w) (n : Nat) : Below B a (w.drewN n) := ⟨h.os, h.tape, h.output, h.size, h.block⟩
end Go.Proofs.YtghcmllmbpoidaaGreatDoor.Tr
