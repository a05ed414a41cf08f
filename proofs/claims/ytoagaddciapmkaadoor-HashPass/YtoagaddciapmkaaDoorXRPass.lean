/-
  Pass: the document's.
-/
import Derived.Test.YtoagaddciapmkaaDoorXRSeal
import Derived.Test.YtoagaddciapmkaaDoorXRHex
import Derived.Test.YtoagaddciapmkaaDoorXPass
namespace Go.Proofs.YtoagaddciapmkaaDoor
open Go.RowKit Go.WideShapes Go.Maps

theorem rpass_long (a b : ByteArray) (t : Int) (w : World) (h : 16384 < a.size ∨ 16384 < b.size) : Calls Tryd.prog 17 #[.string a, .string b, .int .i64 t] w fun e w' => e = .returned (.tuple #[.string ⟨#[]⟩, .int .i64 3]) ∧ w' = w := by
  go_enter Tryd.func17, Tryd.ntmps17
  by_cases h1 : 16384 < a.size
  · have hI : (16384 : Int) < (a.size : Int) := by omega
    go_wp2
    go_ret2
    exact ⟨rfl, rfl⟩
  · have hI : ¬ ((16384 : Int) < (a.size : Int)) := by omega
    have hJ : (16384 : Int) < (b.size : Int) := by omega
    go_wp2
    go_ret2
    exact ⟨rfl, rfl⟩
theorem rpass_times (a b : ByteArray) (t : Int) (w : World) (h1 : a.size ≤ 16384) (h2 : b.size ≤ 16384) (h : t < 1 ∨ 64 < t) : Calls Tryd.prog 17 #[.string a, .string b, .int .i64 t] w fun e w' => e = .returned (.tuple #[.string ⟨#[]⟩, .int .i64 2]) ∧ w' = w := by
  go_enter Tryd.func17, Tryd.ntmps17
  have hI : ¬ ((16384 : Int) < (a.size : Int)) := by omega
  have hJ : ¬ ((16384 : Int) < (b.size : Int)) := by omega
  by_cases h3 : t < 1
  · go_wp2
    go_ret2
    exact ⟨rfl, rfl⟩
  · have h4 : (64 : Int) < t := by omega
    go_wp2
    go_ret2
    exact ⟨rfl, rfl⟩
inductive RPassI (w : World) (gd : Nat) (s b : List Nat) (n : Nat) (v t : Value) (wr : World) : Prop where
  | intro (k : Nat) (p : Option Addr) (c : Nat) (Z : List Nat) (hk : k ≤ n) (ht : t = .int .i64 (k : Int)) (hv : v = .slice p (passN s b k).length c) (hz : p = none → c = 0) (hb : BIn wr p (passN s b k)) (hZ : Z.length = 32) (hd : wr.heap[gd]? = some (.cells (Bs Z).toArray 23 (0, 0))) (hB : Below w.heap.size w wr)
inductive RPushI (w : World) (bx : List Box) (D : List Nat) (u t : Value) (wr : World) : Prop where
  | intro (k : Nat) (hk : k ≤ 32) (ht : t = .int .i64 (k : Int)) (h : Gw w bx wr u (D.take k))
theorem gw_slice {w wr : World} {bx : List Box} {u : Value} {D : List Nat} (h : Gw w bx wr u D) (hb : ∀ x ∈ D, x < 256) : ∃ p c, u = .slice p D.length c ∧ BIn wr p D ∧ (p = none → c = 0) := by
  obtain ⟨p5, c5, e5, hc5, hi5, hn5⟩ := owns_bin h.own hb
  subst e5
  refine ⟨p5, c5, rfl, hi5, fun e => ?_⟩
  rcases h.own.2 with ⟨hv, _⟩ | ⟨g, cap, cur, hv, _⟩
  · simp only [Value.slice.injEq] at hv; omega
  · simp only [Value.slice.injEq] at hv; rw [e] at hv; exact absurd hv.1 (by simp)
set_option maxHeartbeats 2000000 in
set_option maxRecDepth 100000 in
theorem rpass_ok (a b : ByteArray) (n : Nat) (w : World) (h1 : a.size ≤ 16384) (h2 : b.size ≤ 16384) (hn1 : 1 ≤ n) (hn2 : n ≤ 64) :
    Calls Tryd.prog 17 #[.string a, .string b, .int .i64 (n : Int)] w fun e w' => e = .returned (.tuple #[.string (strOf (hexN (passN (numsOf a) (numsOf b) n))), .int .i64 0]) ∧ Below w.heap.size w w' := by
  have hI : ¬ ((16384 : Int) < (a.size : Int)) := by omega
  have hJ : ¬ ((16384 : Int) < (b.size : Int)) := by omega
  have hT1 : ¬ ((n : Int) < 1) := by omega
  have hT2 : ¬ ((64 : Int) < (n : Int)) := by omega
  obtain ⟨c2, w2, r2, hc2, i2, B2⟩ := conv_str b w
  have hla := numsOf_len a
  have hlb := numsOf_len b
  have hbb := numsOf_lt b
  have N3 : (w2.alloc (.cells (Bs (List.replicate 32 0)).toArray 23)).heap[w2.heap.size]? = some (.cells (Bs (List.replicate 32 0)).toArray 23 (0, 0)) := _root_.Go.heap_alloc_new _ _
  have B3 : Below w.heap.size w (w2.alloc (.cells (Bs (List.replicate 32 0)).toArray 23)) := B2.alloc B2.size _
  have i3 : BIn (w2.alloc (.cells (Bs (List.replicate 32 0)).toArray 23)) (some ⟨w.heap.size, 0, none⟩) (numsOf b) := i2.alloc _
  have hs2 := B2.size
  go_enter Tryd.func17, Tryd.ntmps17
  go_upto_region 7 with fail
  change Code.wp _ _ _ _ (w2.alloc (.cells (Bs (List.replicate 32 0)).toArray 23))
  generalize w2.heap.size = gd at N3 hs2 ⊢
  generalize w2.alloc (.cells (Bs (List.replicate 32 0)).toArray 23) = W3 at N3 B3 i3 ⊢
  clear r2 i2 B2
  go_wp2
  go_loopw [8, 10] (fun v t wr => RPassI w gd (numsOf a) (numsOf b) n v t wr) (fun _ t _ => n - (intOf t).toNat)
  case atStart => exact ⟨0, _, c2, _, by omega, rfl, by show _ = Value.slice _ (numsOf b).length c2; rw [hlb], (fun h => by cases h), i3, List.length_replicate, N3, B3⟩
  case round =>
    clear N3 B3 i3
    obtain ⟨k, p, c, Z, hkn, rfl, rfl, hz, hb, hZ, hd, hB⟩ := hrel
    by_cases hlt : k < n
    · have hsz := passN_size (s := numsOf a) (b := numsOf b) (by omega) k
      obtain ⟨c1, w1, r1, hc1, i1, B1⟩ := conv_str a wr
      have SE := rsealed_any (some ⟨wr.heap.size, 0, none⟩) p c1 c (numsOf a) (passN (numsOf a) (numsOf b) k) w1 i1 (fun h => by cases h) (hb.below B1) hz (by omega) (by omega)
      rw [← passN_more, hla] at SE
      have hSl := passN_len (numsOf a) (numsOf b) k
      have hSb := passN_byte (s := numsOf a) hbb (k + 1)
      obtain ⟨D, hD⟩ : ∃ D, passN (numsOf a) (numsOf b) (k + 1) = D := ⟨_, rfl⟩
      rw [hD] at SE hSl hSb
      have HD : Hid _ := hD
      have hDs : (Tryd.prog.info? 23).map (·.size) = some (Bs D).toArray.size := by rw [size_dig]; simp [Bs, hSl]
      have hkI : (k : Int) < (n : Int) := by omega
      have Hb : Hid _ := hb
      have d1 := (B1.block _ (rw_lt hd)).trans hd
      have Bw1 := below_more hB B1
      clear hD hb hd
      go_wp2_with fail
      refine SE.mono ?_
      rintro e w3 ⟨rfl, hb3⟩
      have d3 := (hb3.block _ (rw_lt d1)).trans d1
      have Bw3 := below_more Bw1 hb3
      have hlt3 := rw_lt d3
      simp only []
      go_step
      refine wpList_store_row rfl 23 (.tmp 9) (.tmp 36) rfl gd (Bs D).toArray (by rfl) (by rfl) 23 _ d3 hDs (by simp [Bs, hSl, hZ]) (one_cell_bs _) ?_
      have d4 := setRow_heap w3 gd _ (Bs D).toArray _ _ d3
      have Bw4 : Below w.heap.size w (w3.setRow gd (Bs D).toArray) := below_setRow Bw3 hs2
      generalize w3.setRow gd (Bs D).toArray = W4 at d4 Bw4 ⊢
      have G0 : Gw W4 [(gd, (Bs D).toArray, 23)] W4 (.slice none 0 0) [] := ⟨World.ownsRow_nil _ _ _ _, Below.refl _ _, fun b hb => by
        simp only [List.mem_cons, List.not_mem_nil, or_false] at hb
        subst hb
        exact ⟨d4, by simp [Value.ownBlock]⟩⟩
      clear hb3 SE d3 d1 r1 d4 Bw3 Bw1 i1 B1 hlt3
      go_wp2
      go_loopw [8, 11] (fun u t wr => RPushI W4 [(gd, (Bs D).toArray, 23)] D u t wr) (fun _ t _ => 32 - (intOf t).toNat)
      case atStart => exact ⟨0, by omega, rfl, by rw [List.take_zero]; exact G0⟩
      case round =>
        clear G0
        rename World => w8
        obtain ⟨j, hj, rfl, G⟩ := hrel
        by_cases hlt2 : j < 32
        · have hc := cell_bs (G.box _ List.mem_cons_self).1 (show j < D.length by omega)
          have hx := getD_lt hSb j
          have hjI : (j : Int) < 32 := by omega
          have l1 : (D.take j).length = j := by rw [List.length_take]; omega
          have e1 : Hid (D.take j ++ [D.getD j 0] = D.take (j + 1)) := take_push (by omega)
          generalize D.take j = CK at G l1 e1
          generalize D.getD j 0 = x at hc hx e1
          have G1 := G.call (w1 := w8.alloc (.cells #[.int .u8 (x : Int)] 5)) ((Below.refl _ _).alloc (Nat.le_refl _) _)
          have sz := G1.size
          go_wp2_with (at_builtin; refine wpList_append_bytesX _ rfl _ _ rfl W4.heap.size _ CK [x] (some ⟨w8.heap.size, 0, none⟩) 1 1 rfl rfl rfl G1.own (bin_one _ _ _ rfl hx) (fun h => by cases h) (by rw [l1]; simp; omega) sz ?_)
          intro v3 w9 ho3 hg3 hw3
          have G3 := (G1.app (by rw [List.length_append, l1]; exact ho3) hg3 (by simpa using hw3)).eq e1.out
          clear ho3 hg3 hw3 G1 G hc
          go_wp2
          go_roundw
          case rel => exact ⟨j + 1, by omega, rfl, G3⟩
          case measure => simp [intOf]; omega
        · obtain rfl : j = 32 := by omega
          rw [show ((32 : Nat) : Int) = 32 from rfl]
          rw [List.take_of_length_le (by omega)] at G
          obtain ⟨p9, c9, e9, hi9, hp9⟩ := gw_slice G hSb
          subst e9
          have d9 := (G.box _ List.mem_cons_self).1
          have B9 := below_more Bw4 G.bel
          clear G Bw4
          rw [hSl]
          go_wp2
          go_roundw
          case rel => exact ⟨k + 1, p9, c9, D, by omega, rfl, by rw [HD.out, hSl], hp9, by rw [HD.out]; exact hi9, hSl, d9, B9⟩
          case measure => simp [intOf]; omega
    · obtain rfl : k = n := by omega
      have HX := rhex_any p c (passN (numsOf a) (numsOf b) k) wr hb (Nat.le_trans (passN_size (by omega) k) (by decide))
      have Hb : Hid _ := hb
      clear hb
      obtain ⟨D, hD⟩ : ∃ D, passN (numsOf a) (numsOf b) k = D := ⟨_, rfl⟩
      have HD : Hid _ := hD
      rw [hD] at HX ⊢
      clear hD
      go_wp2_with (go_at_call 40; refine HX.mono ?_; rintro e w3 ⟨rfl, hb3⟩)
      go_ret2
      rw [HD.out]
      exact ⟨rfl, below_more hB hb3⟩
end Go.Proofs.YtoagaddciapmkaaDoor
