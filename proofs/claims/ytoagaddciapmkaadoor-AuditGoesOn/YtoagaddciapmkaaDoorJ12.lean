/-
  Four bytes as a word; the bytes made longer: the document's.
-/
import Derived.Test.YtoagaddciapmkaaDoorJ05
import Derived.Test.YtoagaddciapmkaaDoorJ08
import Derived.BigQuiet
namespace Go.Proofs.YtoagaddciapmkaaDoor
open Go.RowKit Go.WideShapes

theorem rturn_any (x n : Nat) (w : World) (hx : x < 4294967296) (h0 : 0 < n) (hn : n < 32) : Calls Tryd.prog 64 #[.int .u32 x, .int .u32 n] w fun e w' => e = .returned (.int .u32 (turnR x n : Nat)) ∧ w' = w := by
  go_enter Tryd.func64, Tryd.ntmps64
  go_wp2
  go_ret
  refine ⟨?_, rfl⟩
  show Ending.returned (Value.int IntKind.u32 (bits BinOp.or IntKind.u32 ((x : Int) / 2 ^ n) ((x : Int) * 2 ^ (32 - n) % 4294967296))) = _
  rw [turnR_bits x n hx]
theorem size_rwords : (Tryd.prog.info? 60).map (·.size) = some 8 := by kernel_rfl
theorem size_rsched : (Tryd.prog.info? 62).map (·.size) = some 64 := by kernel_rfl
theorem rfirst_any (w : World) : Calls Tryd.prog 34 #[] w fun e w' => e = .returned (.agg (Ws firstH).toArray) ∧ Below w.heap.size w w' := by
  go_enter Tryd.func34, Tryd.ntmps34
  go_upto_region 1 with fail
  go_step
  refine wpList_build rfl 60 _ rfl (by kernel_rfl) ?_
  refine wpList_store_row rfl 60 (.tmp 0) (.tmp 1) rfl w.heap.size (Ws firstH).toArray (by rfl) (by kernel_rfl) 60 _ (_root_.Go.heap_alloc_new _ _) size_rwords rfl (one_cell_ws _) ?_
  go_wp2
  refine bodyPost_ret (results_cell_row rfl _ _ w.heap.size 60 (Ws firstH).toArray (0, 0) _ rfl (setRow_heap _ _ _ _ _ _ (_root_.Go.heap_alloc_new _ _)) Tryd.underlying60 rfl size_rwords) rfl ⟨rfl, ?_⟩
  exact below_setRow ((Below.refl _ _).alloc (by omega) _) (by omega)
theorem rsteps_any (w : World) : Calls Tryd.prog 35 #[] w fun e w' => e = .returned (.agg (Ws stepsK).toArray) ∧ Below w.heap.size w w' := by
  go_enter Tryd.func35, Tryd.ntmps35
  go_upto_region 1 with fail
  go_step
  refine wpList_build rfl 62 _ rfl (by kernel_rfl) ?_
  refine wpList_store_row rfl 62 (.tmp 0) (.tmp 1) rfl w.heap.size (Ws stepsK).toArray (by rfl) (by kernel_rfl) 62 _ (_root_.Go.heap_alloc_new _ _) size_rsched rfl (one_cell_ws _) ?_
  go_wp2
  refine bodyPost_ret (results_cell_row rfl _ _ w.heap.size 62 (Ws stepsK).toArray (0, 0) _ rfl (setRow_heap _ _ _ _ _ _ (_root_.Go.heap_alloc_new _ _)) Tryd.underlying62 rfl size_rsched) rfl ⟨rfl, ?_⟩
  exact below_setRow ((Below.refl _ _).alloc (by omega) _) (by omega)
end Go.Proofs.YtoagaddciapmkaaDoor
namespace Go.Proofs.YtoagaddciapmkaaDoor
open Go.RowKit Go.WideShapes Go.Maps

theorem wpList_append_rowH (w : World) {ops : Array Oper} {rest : List Oper} {o : Oper} {a : Act} {Q : Exit → Act → World → Prop} (hgd : o.guard = none) (s x : Operand)
    (ho : o.op = .call { callee := .builtin .append, args := #[s, x], argTypes := #[22, 22] }) (base : Nat) (v : Value) (xs ys : List Nat) (p : Option Addr) (m c : Nat) (hs : a.eval s = v) (hx : a.eval x = .slice p m c) (hm : m = ys.length)
    (hown : w.ownsRow base 5 1 v xs.length (Bs xs)) (hin : BIn w p ys) (hp : p = none → c = 0) (hlen : xs.length + ys.length ≤ 140737488355328) (hbase : base ≤ w.heap.size)
    (h : ∀ v' w', w'.ownsRow base 5 1 v' (xs ++ ys).length (Bs (xs ++ ys)) → w.grownBy w' v.ownBlock → wpList Tryd.prog ops Q rest (a.put o.dst v') w') : wpList Tryd.prog ops Q (o :: rest) a w := by
  subst hm
  refine wpList_plain hgd fun K hK => ?_
  obtain ⟨i0, hi, hz0, hz1, hz2⟩ := info_parts info5
  obtain ⟨v', w', hr, h2, h3⟩ := run_append_row (P := Tryd.prog) (tb := 22) (eb := 5) Tryd.underlying22 hi hz0 hz1 hz2 base o.type v xs ys p c hown hin hp hlen hbase
  unfold Oper.wp execOp
  simp only [ho, resolve, invoke, builtin, Sem.run_bind, Sem.run_pure, Result.andThen_ok, List.map_toArray, List.map_cons, List.map_nil, hs, hx, hr]
  exact hK _ _ (h v' w' h2 h3)
def lenW : Value → Nat
  | .slice _ n _ => n
  | _ => 0
theorem owns_len {w : World} {B : Nat} {v : Value} {n : Nat} {xs : List Value} (h : w.ownsRow B 5 1 v n xs) : ∃ p c, v = .slice p n c := by
  rcases h.2 with ⟨rfl, h0⟩ | ⟨g, cap, cur, rfl, _⟩
  · exact ⟨none, 0, by rw [h0]⟩
  · exact ⟨_, _, rfl⟩
set_option maxHeartbeats 1000000 in
set_option maxRecDepth 100000 in
theorem rlonger_any (p : Option Addr) (c : Nat) (b : List Nat) (w : World) (hb : BIn w p b) (hp : p = none → c = 0) (hs : b.length ≤ 140737488300000) :
    Calls Tryd.prog 36 #[.slice p b.length c] w fun e w' => ∃ v, e = .returned v ∧ w'.ownsRow w.heap.size 5 1 v (longerN b).length (Bs (longerN b)) ∧ Below w.heap.size w w' := by
  obtain ⟨i0, hi, hz0, hz1, hz2⟩ := info_parts info5
  obtain ⟨s, hsl⟩ : ∃ s, b.length = s := ⟨_, rfl⟩
  obtain ⟨z, hz⟩ : ∃ z, (119 - s % 64) % 64 = z := ⟨_, rfl⟩
  have HT : Hid (longerN b = b ++ (128 :: List.replicate z 0) ++ be8 (s * 8)) := by show _ = _; unfold longerN; rw [hsl, hz, List.append_assoc]
  have HSL : Hid (b.length = s) := hsl
  rw [hsl]
  rw [hsl] at hs
  clear hsl
  go_enter Tryd.func36, Tryd.ntmps36
  go_wp2_with (at_builtin; refine wpList_append_rowH _ rfl _ _ rfl w.heap.size (.slice none 0 0) [] b p s c rfl rfl HSL.out.symm (World.ownsRow_nil _ _ _ _) hb hp (by rw [HSL.out]; simp; omega) (Nat.le_refl _) ?_)
  intro v' w' hown hgrow
  have hb1 : Below w.heap.size w w' := (Below.refl _ _).grown hgrow (Nat.le_refl _) (fun k hk => by simp [Value.ownBlock] at hk)
  have hown : w'.ownsRow w.heap.size 5 1 v' b.length (Bs b) := hown
  have hbl : b.length ≤ 140737488300000 := by rw [HSL.out]; exact hs
  clear hgrow hb
  have hsz := hb1.size
  go_wp2_with (at_builtin; refine wpList_append_own _ rfl _ _ 22 rfl w.heap.size 5 i0 (.int .u8 0) 1 1 Tryd.underlying22 hi hz0 hz1 hz2 rfl (by decide) _ _ _ rfl (hown.alloc _) ⟨w'.heap.size, 0, none⟩ 1 1 [.int .u8 128] rfl rfl (cell_one_new _ _ _) ?c2 ?c3 ?c4 ?c5 ?_)
  case c2 => intro u hu; simp at hu; subst hu; rfl
  case c3 => unfold maxLen; omega
  case c4 => omega
  case c5 => simp; omega
  intro v1 w1 hown' hgrow _
  have R := rel_push (c := 128) rfl hown hb1 hsz hown' hgrow
  clear hown' hgrow hown hb1 hsz
  go_wp2
  go_loopw [3] (fun v wr => ∃ k : Nat, k ≤ z ∧ wr.ownsRow w.heap.size 5 1 v (b ++ 128 :: List.replicate k 0).length (Bs (b ++ 128 :: List.replicate k 0)) ∧ Below w.heap.size w wr)
    (fun v _ => s + 1 + z - lenW v)
  case atStart => exact ⟨0, by omega, R.1, R.2⟩
  case round =>
    clear R hbl
    obtain ⟨k, hk, hown, hbl⟩ := hrel
    obtain ⟨q, cq, rfl⟩ := owns_len hown
    have hll : (b ++ 128 :: List.replicate k 0).length = s + 1 + k := by simp [HSL.out]; omega
    have HE : Hid ((b ++ 128 :: List.replicate k 0) ++ [0] = b ++ 128 :: List.replicate (k + 1) 0) := by show _ = _; rw [List.append_assoc, List.cons_append, ← List.replicate_succ']
    rw [hll] at hown ⊢
    have hlI : ((s + 1 + k : Nat) : Int) = ((s + 1 + k : Nat) : Int) := rfl
    generalize hys : (b ++ 128 :: List.replicate k 0) = ys at hown hll HE
    have hsz := hbl.size
    by_cases hlt : k < z
    · have hc : ¬ (((s + 1 + k : Nat) : Int) % 64 = 56) := by omega
      obtain ⟨l, hl⟩ : ∃ l, s + 1 + k = l := ⟨_, rfl⟩
      have HL : Hid _ := hl
      rw [hl] at hc hown hll ⊢
      have hlm : l ≤ 140737488300100 := by omega
      clear hys hl
      go_wp2_with (at_builtin; refine wpList_append_own _ rfl _ _ 22 rfl w.heap.size 5 i0 (.int .u8 0) 1 1 Tryd.underlying22 hi hz0 hz1 hz2 rfl (by decide) _ _ _ rfl (hown.alloc _) ⟨wr.heap.size, 0, none⟩ 1 1 [.int .u8 0] rfl rfl (cell_one_new _ _ _) ?c2 ?c3 ?c4 ?c5 ?_)
      case c2 => first | rfl | (intro u hu; simp at hu; subst hu; rfl)
      case c3 => unfold maxLen; omega
      case c4 => omega
      case c5 => first | omega | (simp; omega)
      intro v2 w2 hown' hgrow _
      have R := rel_push (c := 0) (xs := ys) rfl (by rw [hll]; exact hown) hbl hsz (by rw [hll]; exact hown') hgrow
      obtain ⟨q2, c2, e2⟩ := owns_len hown'
      clear hown' hgrow hown
      go_wp2
      go_roundw
      case rel =>
        refine ⟨k + 1, by omega, ?_, R.2⟩
        rw [← HE.out]; exact R.1
      case measure => rw [e2]; simp [lenW]; have := HL.out; omega
    · obtain rfl : k = z := by omega
      have hc : ((s + 1 + k : Nat) : Int) % 64 = 56 := by omega
      rw [← hys] at hown hll
      have hown : wr.ownsRow w.heap.size 5 1 (.slice q (s + 1 + k) cq) (b ++ 128 :: List.replicate k 0).length (Bs (b ++ 128 :: List.replicate k 0)) := by rw [hll]; exact hown
      clear hys HE
      have hz64 : k < 64 := by omega
      generalize hxs : b ++ 128 :: List.replicate k 0 = B0 at hown hll
      have HX : Hid (longerN b = B0 ++ be8 (s * 8)) := by show _ = _; rw [HT.out, ← hxs]
      clear hxs
      go_wp2
      go_loopw [5, 3] (fun t v wr => ∃ j : Nat, j ≤ 8 ∧ t = .int .i64 (7 - (j : Int)) ∧ wr.ownsRow w.heap.size 5 1 v (B0 ++ (be8 (s * 8)).take j).length (Bs (B0 ++ (be8 (s * 8)).take j)) ∧ Below w.heap.size w wr)
        (fun t _ _ => (intOf t + 1).toNat)
      case atStart => exact ⟨0, by omega, rfl, by simpa using hown, hbl⟩
      case round =>
        clear hown hbl hsz
        rename World => wq
        obtain ⟨j, hj8, rfl, hown, hbl⟩ := hrel
        by_cases hlt2 : j < 8
        · have hsz := hbl.size
          have hat := be8_at (s * 8) j hlt2
          have hsh : 8 * (7 - (j : Int)) = ((8 * (7 - j) : Nat) : Int) := by omega
          have hs64 : 8 * (7 - j) < 64 := by omega
          have hlen : (B0 ++ (be8 (s * 8)).take j).length ≤ 140737488300200 := by
            rw [List.length_append, hll, List.length_take, be8_len]; omega
          have HE : Hid ((B0 ++ (be8 (s * 8)).take j) ++ [(be8 (s * 8)).getD j 0] = B0 ++ (be8 (s * 8)).take (j + 1)) := by
            show _ = _
            rw [List.append_assoc, List.take_add_one]
            congr 1
            congr 1
            simp [List.getD, List.getElem?_eq_getElem (show j < (be8 (s * 8)).length by rw [be8_len]; omega)]
          have HA : Hid _ := hat
          generalize (be8 (s * 8)).getD j 0 = ch at HA HE
          generalize (B0 ++ (be8 (s * 8)).take j) = xs at hown hlen HE
          generalize 8 * (7 - j) = sv at hsh hs64 HA
          clear hat hc
          go_wp2_with (at_builtin; refine wpList_append_own _ rfl _ _ 22 rfl w.heap.size 5 i0 (.int .u8 0) 1 1 Tryd.underlying22 hi hz0 hz1 hz2 rfl (by decide) _ _ _ rfl (hown.alloc _) ⟨wq.heap.size, 0, none⟩ 1 1 [.int .u8 (((s : Int) * 8) / 2 ^ sv % 256)] rfl rfl (cell_one_new _ _ _) ?c2 ?c3 ?c4 ?c5 ?_)
          case c2 => first | rfl | (intro u hu; simp at hu; subst hu; rfl)
          case c3 => unfold maxLen; omega
          case c4 => omega
          case c5 => first | omega | (simp; omega)
          intro v3 w3 hown' hgrow _
          have R := rel_push (c := ch) (by rw [HA.out]; rw [Int.natCast_emod, Int.natCast_ediv, Int.natCast_pow]; rfl) hown hbl hsz hown' hgrow
          clear hown' hgrow hown
          go_wp2
          go_roundw
          case rel =>
            refine ⟨j + 1, by omega, by congr 1; omega, ?_, R.2⟩
            rw [← HE.out]; exact R.1
          case measure => simp [intOf]; omega
        · obtain rfl : j = 8 := by omega
          rw [List.take_of_length_le (by rw [be8_len]; omega), ← HX.out] at hown
          rw [show (7 : Int) - ((8 : Nat) : Int) = -1 from rfl]
          go_wp2
          go_ret
          exact ⟨_, rfl, hown, hbl⟩
end Go.Proofs.YtoagaddciapmkaaDoor
namespace Go.Proofs.YtoagaddciapmkaaDoor
open Go.RowKit Go.WideShapes

theorem or_up (x y X Y s : Nat) (hX : X = x * 2 ^ s) (hY : Y = y * 2 ^ s) (z : Nat) (hz : x ||| y = z) (Z : Nat) (hZ : Z = z * 2 ^ s) : X ||| Y = Z := by
  subst hz
  rw [hX, hY, hZ, ← Nat.shiftLeft_eq, ← Nat.shiftLeft_eq, ← Nat.shiftLeft_eq, Nat.shiftLeft_or_distrib]
theorem or4 (a b c d : Nat) (ha : a < 256) (hb : b < 256) (hc : c < 256) (hd : d < 256) : bits BinOp.or IntKind.u32 (bits BinOp.or IntKind.u32 (bits BinOp.or IntKind.u32 ((a : Int) * 16777216) ((b : Int) * 65536)) ((c : Int) * 256)) (d : Int) = ((((a * 256 + b) * 256 + c) * 256 + d : Nat) : Int) := by
  have e1 := u32_or_nat (a * 16777216) (b * 65536) (by omega) (by omega)
  have f1 : a * 16777216 ||| b * 65536 = (a * 256 + b) * 65536 := or_up (a * 256) b (a * 16777216) (b * 65536) 16 (by omega) (by omega) _ (or_low a b hb) _ (by omega)
  have e2 := u32_or_nat ((a * 256 + b) * 65536) (c * 256) (by omega) (by omega)
  have f2 : (a * 256 + b) * 65536 ||| c * 256 = ((a * 256 + b) * 256 + c) * 256 := or_up ((a * 256 + b) * 256) c ((a * 256 + b) * 65536) (c * 256) 8 (by omega) (by omega) _ (or_low (a * 256 + b) c hc) _ (by omega)
  have e3 := u32_or_nat (((a * 256 + b) * 256 + c) * 256) d (by omega) (by omega)
  have f3 := or_low ((a * 256 + b) * 256 + c) d hd
  rw [show (a : Int) * 16777216 = ((a * 16777216 : Nat) : Int) from by omega, show (b : Int) * 65536 = ((b * 65536 : Nat) : Int) from by omega, e1, f1, show (c : Int) * 256 = ((c * 256 : Nat) : Int) from by omega, e2, f2, e3, f3]
set_option maxHeartbeats 1000000 in
set_option maxRecDepth 100000 in
theorem rword_any (p : Option Addr) (c n : Nat) (xs : List Nat) (k : Nat) (w : World) (hb : BIn w p xs) (hn : n = xs.length) (hk : k + 3 < xs.length) (hsz : xs.length < 1000000000) :
    Calls Tryd.prog 63 #[.slice p n c, .int .i64 (k : Int)] w fun e w' => e = .returned (.int .u32 ((wordB xs k : Nat) : Int)) ∧ Below w.heap.size w w' := by
  obtain ⟨b, o, rfl, hc⟩ := hb.1 (by omega)
  have d0 := hc k (by omega)
  have d1 := hc (k + 1) (by omega)
  have d2 := hc (k + 2) (by omega)
  have d3 := hc (k + 3) hk
  have l0 := getD_lt' hb.2 k; have l1 := getD_lt' hb.2 (k + 1); have l2 := getD_lt' hb.2 (k + 2); have l3 := getD_lt' hb.2 (k + 3)
  have HW : Hid (wordB xs k = ((xs.getD k 0 * 256 + xs.getD (k + 1) 0) * 256 + xs.getD (k + 2) 0) * 256 + xs.getD (k + 3) 0) := rfl
  generalize xs.getD k 0 = x0 at d0 l0 HW
  generalize xs.getD (k + 1) 0 = x1 at d1 l1 HW
  generalize xs.getD (k + 2) 0 = x2 at d2 l2 HW
  generalize xs.getD (k + 3) 0 = x3 at d3 l3 HW
  obtain ⟨k1, hk1⟩ : ∃ k1, k + 1 = k1 := ⟨_, rfl⟩
  obtain ⟨k2, hk2⟩ : ∃ k2, k + 2 = k2 := ⟨_, rfl⟩
  obtain ⟨k3, hk3⟩ : ∃ k3, k + 3 = k3 := ⟨_, rfl⟩
  rw [hk1] at d1; rw [hk2] at d2; rw [hk3] at d3
  have i1 : (k : Int) + 1 = (k1 : Int) := by omega
  have i2 : (k : Int) + 2 = (k2 : Int) := by omega
  have i3 : (k : Int) + 3 = (k3 : Int) := by omega
  have b0 : (k : Int) < (n : Int) := by omega
  have b1 : (k1 : Int) < (n : Int) := by omega
  have b2 : (k2 : Int) < (n : Int) := by omega
  have b3 : (k3 : Int) < (n : Int) := by omega
  have hor := or4 x0 x1 x2 x3 l0 l1 l2 l3
  have w0 : IntKind.i64.wrap (k1 : Int) = (k1 : Int) := by rw [IntKind.wrap_i64]; omega
  have w1 : IntKind.i64.wrap (k2 : Int) = (k2 : Int) := by rw [IntKind.wrap_i64]; omega
  have w2 : IntKind.i64.wrap (k3 : Int) = (k3 : Int) := by rw [IntKind.wrap_i64]; omega
  have Hb : Hid _ := hb
  clear hb hc hk1 hk2 hk3 hn
  go_enter Tryd.func63, Tryd.ntmps63
  go_upto_region 1 with fail
  go_quiet (fail)
  go_wp2
  go_ret
  refine ⟨?_, below_drewN (Below.refl _ _) _⟩
  rw [HW.out]
  refine congrArg (fun z => Ending.returned (Value.int IntKind.u32 z)) ?_
  omega
end Go.Proofs.YtoagaddciapmkaaDoor
