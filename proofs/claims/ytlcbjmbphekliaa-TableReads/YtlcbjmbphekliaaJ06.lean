/-
  What a table is read into: tableOf, mayHave.
-/
import Derived.Test.YtlcbjmbphekliaaJ05
import Derived.Laws.AppendOwnNone
import Derived.Deep.OwnRows
import Derived.Deep.Cut
import Derived.RegionTactic
import Derived.Laws.MakeOwn
namespace Go.Proofs.Ytlcbjmbphekliaa.Sv
open Go.RowKit Go.WideShapes

theorem rem_odd (z : Nat) : ((z : Int) % 2 == 1) = decide (z % 2 = 1) := by
  rw [Bool.eq_iff_iff]; simp; omega
set_option maxHeartbeats 400000 in
theorem refSum_any (p : Option Addr) (cap : Nat) (xs : List Nat) (w : World) (hb : BIn w p xs) (hm : xs.length ≤ maxLen) :
    Calls Try.prog 70 #[.slice p xs.length cap] w fun e w' => e = .returned (.int .u32 (sumN xs : Nat)) ∧ w' = w := by
  unfold maxLen at hm
  have hlt := hb.2
  go_enter Try.func70, Try.ntmps70
  go_wp2
  go_loop [3, 4] (fun t i => ∃ k : Nat, k ≤ xs.length ∧ i = .int .i64 k ∧ t = .int .u32 (crc 4294967295 (xs.take k) : Nat)) (fun _ i => xs.length - (intOf i).toNat)
  case atStart => exact ⟨0, by omega, rfl, rfl⟩
  case round =>
    obtain ⟨k, hk, rfl, rfl⟩ := hrel
    have hr := crc_lt (xs.take k) 4294967295 (by decide) (fun c hc => hlt c (List.mem_of_mem_take hc))
    by_cases hkl : k < xs.length
    · obtain ⟨b, o, rfl, hc⟩ := hb.1 (by omega)
      have hck := hc k hkl
      have H : Hid _ := crc_take 4294967295 xs k hkl
      have hb8 := getD_lt hlt k
      have hx := byte_xor (crc 4294967295 (xs.take k)) (xs.getD k 0) hr hb8
      have hq : crc 4294967295 (xs.take k) ^^^ xs.getD k 0 < 4294967296 := Nat.xor_lt_two_pow (n := 32) (by omega) (by omega)
      generalize crc 4294967295 (xs.take k) = q at *
      generalize xs.getD k 0 = c at *
      clear hc hlt
      generalize q ^^^ c = y at *
      go_wp2
      go_loop [3, 5] (fun t i => ∃ j : Nat, j ≤ 8 ∧ i = .int .i64 j ∧ t = .int .u32 (crcBits j y : Nat)) (fun _ i => 8 - (intOf i).toNat)
      case atStart => exact ⟨0, by omega, rfl, rfl⟩
      case round =>
        obtain ⟨j, hj, rfl, rfl⟩ := hrel
        have hr2 := crcBits_lt j y hq
        have HB : Hid (crcBits (j + 1) y = crcBit (crcBits j y)) := rfl
        by_cases hjl : j < 8
        · generalize crcBits j y = z at *
          have ho := rem_odd z
          have hx2 := bit_xor (z / 2) (by omega)
          rw [show ((z / 2 : Nat) : Int) = (z : Int) / 2 from by omega] at hx2
          by_cases hodd : z % 2 = 1
          · have ho' : ((z : Int) % 2 == 1) = true := by rw [ho]; simp [hodd]
            have HO : Hid (z % 2 = 1) := hodd
            clear ho hodd
            go_wp2
            go_round
            case rel => exact ⟨j + 1, by omega, by go_num, by rw [HB.out]; simp [crcBit, HO.out]⟩
            case measure => simp [intOf]; omega
          · have ho' : ((z : Int) % 2 == 1) = false := by rw [ho]; simp [hodd]
            have HO : Hid (¬ z % 2 = 1) := hodd
            clear ho hodd
            go_wp2
            go_round
            case rel => exact ⟨j + 1, by omega, by go_num, by rw [HB.out]; simp [crcBit, HO.out]⟩
            case measure => simp [intOf]; omega
        · have e : j = 8 := by omega
          subst e
          clear HB
          go_wp2
          go_round
          case rel => exact ⟨k + 1, by omega, by go_num, by rw [H.out]⟩
          case measure => simp [intOf]; omega
    · have e : k = xs.length := by omega
      subst e
      rw [List.take_length] at hr ⊢
      have hn := sum_not xs hr
      go_wp2
      go_ret
      exact ⟨rfl, rfl⟩
end Go.Proofs.Ytlcbjmbphekliaa.Sv
namespace Go.Proofs.Ytlcbjmbphekliaa.Sv
open Go.RowKit Go.WideShapes

theorem info9 : (Try.prog.info? 9).map (fun i => (i.zero, i.size, i.bytes)) = some (some (.string ByteArray.empty), 1, 16) := by kernel_rfl
def Ss (l : List ByteArray) : List Value := l.map fun s => Value.string s
theorem Ss_len (l : List ByteArray) : (Ss l).length = l.length := by simp [Ss]
theorem Ss_app (a b : List ByteArray) : Ss (a ++ b) = Ss a ++ Ss b := by simp [Ss]
theorem Ss_one (l : List ByteArray) : ∀ u ∈ Ss l, u.oneCell' = true := by
  intro u hu
  simp only [Ss, List.mem_map] at hu
  obtain ⟨b, _, rfl⟩ := hu
  rfl
theorem run_append_strs (w : World) (base : Nat) (ty : TypeId) (v : Value) (l l' : List ByteArray) (p : Option Addr) (c : Nat) (hown : w.ownsRow base 9 1 v l.length (Ss l)) (hin : StrsIn w p l') (hp : p = none → c = 0)
    (hlen : l.length + l'.length ≤ 100000) (hbase : base ≤ w.heap.size) :
    ∃ v' w', (Builtin.append_ #[77, 77] ty #[v, .slice p l'.length c]).run Try.prog w = .ok v' w' ∧ w'.ownsRow base 9 1 v' (l ++ l').length (Ss (l ++ l')) ∧ w.grownBy w' v.ownBlock := by
  obtain ⟨i0, hi, hz0, hz1, hz2⟩ := info_parts info9
  have hmax : l.length + l'.length ≤ maxLen := by unfold maxLen; omega
  cases p with
  | none =>
    obtain rfl : l' = [] := by
      cases l' with
      | nil => rfl
      | cons y ys => obtain ⟨b, o, e, _⟩ := hin (by simp); cases e
    obtain rfl := hp rfl
    exact ⟨v, w, run_append_owned_none (P := Try.prog) w base 77 ty 9 i0 1 Try.underlying77 hi v l.length (Ss l) hown, by simpa using hown, ⟨rfl, rfl, rfl, Nat.le_refl _, fun _ _ _ => rfl⟩⟩
  | some ad =>
    have hc : ∀ j u, (Ss l')[j]? = some u → w.cell? (ad.add j) = some u := by
      intro j u hu
      have hj : j < l'.length := by
        rcases Nat.lt_or_ge j l'.length with h | h
        · exact h
        · simp [Ss, List.getElem?_eq_none h] at hu
      obtain ⟨b, o, e, hcell⟩ := hin (by omega)
      simp at e
      subst e
      rw [add_plain, hcell j hj]
      simp [Ss, List.getElem?_eq_getElem hj] at hu
      simp [List.getD, List.getElem?_eq_getElem hj, ← hu]
    obtain ⟨v', w', h1, h2, h3, _⟩ := run_append_own (P := Try.prog) w base 77 ty 9 i0 (.string ByteArray.empty) 1 16 Try.underlying77 hi hz0 hz1 hz2 rfl (by decide) v l.length (Ss l) hown ad l'.length c (Ss l') (by simp [Ss]) hc (Ss_one l') hmax (by omega) hbase
    exact ⟨v', w', h1, by simpa [Ss_app] using h2, h3⟩
theorem wpList_append_strs (w : World) {ops : Array Oper} {rest : List Oper} {o : Oper} {a : Act} {Q : Exit → Act → World → Prop} (hgd : o.guard = none) (s x : Operand)
    (ho : o.op = .call { callee := .builtin .append, args := #[s, x], argTypes := #[77, 77] }) (base : Nat) (v : Value) (l l' : List ByteArray) (p : Option Addr) (m c : Nat) (hs : a.eval s = v) (hx : a.eval x = .slice p m c) (hm : m = l'.length)
    (hown : w.ownsRow base 9 1 v l.length (Ss l)) (hin : StrsIn w p l') (hp : p = none → c = 0) (hlen : l.length + l'.length ≤ 100000) (hbase : base ≤ w.heap.size)
    (h : ∀ v' w', w'.ownsRow base 9 1 v' (l ++ l').length (Ss (l ++ l')) → w.grownBy w' v.ownBlock → wpList Try.prog ops Q rest (a.put o.dst v') w') : wpList Try.prog ops Q (o :: rest) a w := by
  subst hm
  refine wpList_plain hgd fun K hK => ?_
  obtain ⟨v', w', hr, h2, h3⟩ := run_append_strs w base o.type v l l' p c hown hin hp hlen hbase
  unfold Oper.wp execOp
  simp only [ho, resolve, invoke, builtin, Sem.run_bind, Sem.run_pure, Result.andThen_ok, List.map_toArray, List.map_cons, List.map_nil, hs, hx, hr]
  exact hK _ _ (h v' w' h2 h3)
theorem own_strs {w : World} {base : Nat} {v : Value} {l : List ByteArray} (h : w.ownsRow base 9 1 v l.length (Ss l)) : ∃ q c, v = .slice q l.length c ∧ StrsIn w q l := by
  rcases h.2 with ⟨hv, hn⟩ | ⟨g, cap, cur, hv, hb, hg, hle, hmax, hsz, htk⟩
  · exact ⟨none, 0, by rw [hv, hn], fun h0 => by omega⟩
  · refine ⟨some ⟨g, 0, none⟩, cap, hv, fun _ => ⟨g, 0, rfl, fun i hi => ?_⟩⟩
    subst hv
    have := h.cells rfl i (.string (l.getD i ByteArray.empty)) (by simp [Ss, List.getD, List.getElem?_eq_getElem hi])
    rw [add_plain] at this
    exact this
theorem longB_app (a b : List ByteArray) : longB (a ++ b) = (longB a || longB b) := by unfold longB; rw [List.any_append]
/-- Two lists of at most 300 keys put together in either order. -/
theorem makeE_swap {a b : List ByteArray} (ha : a.length ≤ 300) (hb : b.length ≤ 300) (z : Int) : (makeE (a ++ b) z = 0 ↔ makeE (b ++ a) z = 0) := by
  constructor
  · intro h
    obtain ⟨_, h2, h3, h4, h5⟩ := makeE_ok h
    exact makeE_is (by simp; omega) (by rw [longB_app, Bool.or_comm, ← longB_app]; exact h2) h3 h4 h5
  · intro h
    obtain ⟨_, h2, h3, h4, h5⟩ := makeE_ok h
    exact makeE_is (by simp; omega) (by rw [longB_app, Bool.or_comm, ← longB_app]; exact h2) h3 h4 h5
theorem makeE_both {a b : List ByteArray} (ha : a.length ≤ 300) (hb : b.length ≤ 300) {z : Int} (h1 : makeE a z = 0) (h2 : makeE b z = 0) : makeE (a ++ b) z = 0 := by
  obtain ⟨_, h2', h3, h4, h5⟩ := makeE_ok h1
  obtain ⟨_, h2'', _, _, _⟩ := makeE_ok h2
  exact makeE_is (by simp; omega) (by rw [longB_app, h2', h2'']; rfl) h3 h4 h5
end Go.Proofs.Ytlcbjmbphekliaa.Sv
namespace Go.Proofs.Ytlcbjmbphekliaa.Sv
open Go.RowKit Go.WideShapes

theorem rsum_at (p : Option Addr) (n cap : Nat) (xs : List Nat) (w : World) (z : Int) (hn : n = xs.length) (hz : (sumN xs : Int) = z) (hb : BIn w p xs) (hm : xs.length ≤ maxLen) :
    Calls Try.prog 70 #[.slice p n cap] w fun e w' => e = .returned (.int .u32 z) ∧ w' = w := by
  subst hn hz
  exact refSum_any p cap xs w hb hm
theorem info3 : (Try.prog.info? 3).map (fun i => (i.zero, i.size, i.bytes)) = some (some (.int .i64 0), 1, 8) := by kernel_rfl
theorem Is_app (a b : List Nat) : Is (a ++ b) = Is a ++ Is b := by simp [Is]
theorem Is_len (a : List Nat) : (Is a).length = a.length := by simp [Is]
theorem take_marks (s : ByteArray) (m k : Nat) (hk : k < 4) : (marksN s m).take (k + 1) = (marksN s m).take k ++ [markAt s k % m] := by
  rw [List.take_succ_eq_append_getElem (by rw [marksN_len]; exact hk)]
  have := marksN_at s m k hk
  rw [List.getD_eq_getElem?_getD, List.getElem?_eq_getElem (by rw [marksN_len]; exact hk), Option.getD_some] at this
  rw [this]
theorem step_g (s : ByteArray) (k a0 gg p : Nat) (h0 : sieveH s = a0) (hg : sieveG s = gg) (hp : k * gg = p) : ((a0 : Int) + (p : Int)) % 4294967296 = ((markAt s k : Nat) : Int) := by
  unfold markAt
  rw [h0, hg, hp]
  omega
set_option maxRecDepth 8000 in
set_option maxHeartbeats 4000000 in
theorem rmarks_any (s : ByteArray) (m : Nat) (w : World) (hs : (s.size : Int) ≤ 256) (h0 : (0 : Int) < m) (hm : (m : Int) ≤ 65536) :
    Calls Try.prog 69 #[.string s, .int .i64 m] w fun e w' => ∃ v, e = .returned v ∧ w'.ownsRow w.heap.size 3 1 v 4 (Is (marksN s m)) ∧ Below w.heap.size w w' := by
  obtain ⟨i0, hi, hz0, hz1, hz2⟩ := info_parts info3
  obtain ⟨W, cap, hcv, hB, hR⟩ := conv_row s w
  have HB : Hid (Below w.heap.size w W) := hB
  have HR : Hid (CRow W w.heap.size s.size cap (numsOf s)) := hR
  have HS : Hid ((s.size : Int) ≤ 256) := hs
  clear hB hR hs
  obtain ⟨a0, e0⟩ : ∃ a, sieveH s = a := ⟨_, rfl⟩
  obtain ⟨gg, eg⟩ : ∃ a, sieveG s = a := ⟨_, rfl⟩
  obtain ⟨g1, eg1⟩ : ∃ a, sumN (numsOf s ++ [1]) = a := ⟨_, rfl⟩
  have l0 : (a0 : Int) < 4294967296 := by have := sieveH_lt s; omega
  have lg : (gg : Int) < 4294967296 := by have := sieveG_lt s; omega
  have l1 : (g1 : Int) < 4294967296 := by have := sumN_lt _ (one_lt s); omega
  have HG : Hid (gg = if g1 % 2 = 0 then g1 + 1 else g1) := by show _ = _; rw [← eg, ← eg1, ← or_one]; rfl
  have HZ : Hid ((sumN (numsOf s) : Int) = (a0 : Int)) := by show _ = _; rw [← e0]; rfl
  have HZ1 : Hid ((sumN (numsOf s ++ [1]) : Int) = (g1 : Int)) := by show _ = _; rw [eg1]
  have HEE : Hid (sieveH s = a0 ∧ sieveG s = gg) := ⟨e0, eg⟩
  have HW : Hid (∀ a : Nat, wrap64 ((a : Int) % (m : Int)) = ((a % m : Nat) : Int)) := by
    intro a
    have := Nat.mod_lt a (show m > 0 by omega)
    rw [← Int.natCast_emod]; unfold wrap64; omega
  clear e0 eg eg1
  go_enter Try.func69, Try.ntmps69
  go_wp2_with fail
  refine (rsum_at (some ⟨w.heap.size, 0, none⟩) s.size cap (numsOf s) _ (a0 : Int) (numsOf_len s).symm HZ.out HR.out.bin (by have := HS.out; have := numsOf_len s; unfold maxLen; omega)).mono ?_
  rintro e w1 ⟨rfl, rfl⟩
  have HA : Hid (CRow (w1.alloc (.cells #[.int .u8 1] 5)) w.heap.size s.size cap (numsOf s) ∧ w.heap.size < w1.heap.size) := ⟨HR.out.below (below_alloc _ _), by obtain ⟨cur, hg, _⟩ := HR.out.row; exact lt_heap hg⟩
  clear hcv
  go_wp2_with (at_builtin; refine wpList_append_conv _ rfl _ _ rfl w.heap.size s.size cap (numsOf s) w1.heap.size 0 1 rfl rfl HA.out.1 (cell_one_new _ _ _ 0 _ rfl) (by have := HS.out; omega) ?_)
  intro q c' w2 hb2 hg2
  have HB2 : Hid (BIn w2 q (numsOf s ++ [1])) := hb2
  have HBL : Hid (Below w.heap.size w w2) := by
    have h1 := HA.out.2
    refine ⟨hg2.os.trans HB.out.os, hg2.tape.trans HB.out.tape, hg2.output.trans HB.out.output, by have := hg2.size; simp at this; omega, fun k hk => ?_⟩
    rw [hg2.block k (by simp; omega) (by simp; omega), heap_alloc_old w1 _ (by omega)]
    exact HB.out.block k hk
  clear hb2 hg2 HA HR HB
  go_wp2_with fail
  refine (rsum_at q (s.size + 1) c' (numsOf s ++ [1]) _ (g1 : Int) (by rw [List.length_append, numsOf_len]; rfl) HZ1.out HB2.out (by have := HS.out; have := numsOf_len s; simp; unfold maxLen; omega)).mono ?_
  rintro e w3 ⟨rfl, rfl⟩
  clear HB2 HZ HZ1
  by_cases hev : g1 % 2 = 0
  · have ev : ((g1 : Int) % 2 == 0) = true := by simp; omega
    have hgg : gg = g1 + 1 := by rw [HG.out, if_pos hev]
    have hgI : ((g1 : Int) + 1) = (gg : Int) := by omega
    clear hgg hev HG
    go_wp2
    go_loopw [8, 9] (fun v i wr => ∃ k : Nat, k ≤ 4 ∧ i = .int .u64 k ∧ wr.ownsRow w.heap.size 3 1 v k (Is ((marksN s m).take k)) ∧ Below w.heap.size w wr) (fun _ i _ => 4 - (intOf i).toNat)
    case atStart => exact ⟨0, by omega, rfl, World.ownsRow_nil _ _ _ _, HBL.out⟩
    case round =>
      obtain ⟨k, hk, rfl, hown, hbr⟩ := hrel
      have HBR : Hid (Below w.heap.size w wr) := hbr
      have hsz := hbr.size
      clear hbr
      by_cases hkn : k < 4
      · obtain ⟨p, hp⟩ : ∃ p, k * gg = p := ⟨_, rfl⟩
        have hpI : (k : Int) * (gg : Int) = (p : Int) := by rw [← hp]; simp
        have hpl : (p : Int) ≤ 12884901885 := by
          have h3 : k * gg ≤ 3 * gg := Nat.mul_le_mul_right _ (by omega)
          omega
        obtain ⟨x, hx⟩ : ∃ x, markAt s k = x := ⟨_, rfl⟩
        have hst := step_g s k a0 gg p HEE.out.1 HEE.out.2 hp
        rw [hx] at hst
        have HX : Hid ((marksN s m).take (k + 1) = (marksN s m).take k ++ [x % m]) := by show _ = _; rw [take_marks s m k hkn, hx]
        have hwr := HW.out x
        have hkI : (k : Int) < 4 := by omega
        have HK : Hid (k < 4) := hkn
        clear hp hx hkn
        go_wp2_with (at_builtin; refine wpList_append_own _ rfl _ _ 94 rfl w.heap.size 3 i0 (.int .i64 0) 1 8 Try.underlying94 hi hz0 hz1 hz2 rfl (by decide) _ _ _ rfl (hown.alloc _) ⟨wr.heap.size, 0, none⟩ 1 1 [.int .i64 ((x % m : Nat) : Int)] rfl rfl (cell_one_new _ _ _) ?c2 ?c3 ?c4 ?c5 ?_)
        case c2 => intro u hu; simp at hu; subst hu; rfl
        case c3 => have := HK.out; unfold maxLen; omega
        case c4 => have := HK.out; omega
        case c5 => simp; omega
        intro v' w4 hown' hgrow _
        have R : w4.ownsRow w.heap.size 3 1 v' (k + 1) (Is ((marksN s m).take (k + 1))) := by rw [HX.out, Is_app]; exact hown'
        have hb4 : Below w.heap.size w w4 := (HBR.out.alloc hsz _).grown hgrow (by simp; omega) (fun k hk => (hown.lt k hk).1)
        clear hown' hgrow hown
        go_wp2
        go_roundw
        case rel => exact ⟨k + 1, by have := HK.out; omega, by go_num, R, hb4⟩
        case measure => have := HK.out; simp [intOf]; omega
      · obtain rfl : k = 4 := by omega
        go_wp2
        go_ret
        exact ⟨_, rfl, hown, HBR.out⟩
  · have ev : ((g1 : Int) % 2 == 0) = false := by simp; omega
    have hgg : gg = g1 := by rw [HG.out, if_neg hev]
    subst hgg
    clear hev HG
    go_wp2
    go_loopw [8, 9] (fun v i wr => ∃ k : Nat, k ≤ 4 ∧ i = .int .u64 k ∧ wr.ownsRow w.heap.size 3 1 v k (Is ((marksN s m).take k)) ∧ Below w.heap.size w wr) (fun _ i _ => 4 - (intOf i).toNat)
    case atStart => exact ⟨0, by omega, rfl, World.ownsRow_nil _ _ _ _, HBL.out⟩
    case round =>
      obtain ⟨k, hk, rfl, hown, hbr⟩ := hrel
      have HBR : Hid (Below w.heap.size w wr) := hbr
      have hsz := hbr.size
      clear hbr
      by_cases hkn : k < 4
      · obtain ⟨p, hp⟩ : ∃ p, k * gg = p := ⟨_, rfl⟩
        have hpI : (k : Int) * (gg : Int) = (p : Int) := by rw [← hp]; simp
        have hpl : (p : Int) ≤ 12884901885 := by
          have h3 : k * gg ≤ 3 * gg := Nat.mul_le_mul_right _ (by omega)
          omega
        obtain ⟨x, hx⟩ : ∃ x, markAt s k = x := ⟨_, rfl⟩
        have hst := step_g s k a0 gg p HEE.out.1 HEE.out.2 hp
        rw [hx] at hst
        have HX : Hid ((marksN s m).take (k + 1) = (marksN s m).take k ++ [x % m]) := by show _ = _; rw [take_marks s m k hkn, hx]
        have hwr := HW.out x
        have hkI : (k : Int) < 4 := by omega
        have HK : Hid (k < 4) := hkn
        clear hp hx hkn
        go_wp2_with (at_builtin; refine wpList_append_own _ rfl _ _ 94 rfl w.heap.size 3 i0 (.int .i64 0) 1 8 Try.underlying94 hi hz0 hz1 hz2 rfl (by decide) _ _ _ rfl (hown.alloc _) ⟨wr.heap.size, 0, none⟩ 1 1 [.int .i64 ((x % m : Nat) : Int)] rfl rfl (cell_one_new _ _ _) ?c2 ?c3 ?c4 ?c5 ?_)
        case c2 => intro u hu; simp at hu; subst hu; rfl
        case c3 => have := HK.out; unfold maxLen; omega
        case c4 => have := HK.out; omega
        case c5 => simp; omega
        intro v' w4 hown' hgrow _
        have R : w4.ownsRow w.heap.size 3 1 v' (k + 1) (Is ((marksN s m).take (k + 1))) := by rw [HX.out, Is_app]; exact hown'
        have hb4 : Below w.heap.size w w4 := (HBR.out.alloc hsz _).grown hgrow (by simp; omega) (fun k hk => (hown.lt k hk).1)
        clear hown' hgrow hown
        go_wp2
        go_roundw
        case rel => exact ⟨k + 1, by have := HK.out; omega, by go_num, R, hb4⟩
        case measure => have := HK.out; simp [intOf]; omega
      · obtain rfl : k = 4 := by omega
        go_wp2
        go_ret
        exact ⟨_, rfl, hown, HBR.out⟩
end Go.Proofs.Ytlcbjmbphekliaa.Sv
namespace Go.Proofs.Ytlcbjmbphekliaa.Sv
open Go.RowKit Go.WideShapes

theorem row_set {w : World} {g k v : Nat} {xs : List Nat} (h : w.heap[g]? = some (.cells (Bs xs).toArray 5 (0, 0))) : (w.setCell ⟨g, k, none⟩ (.int .u8 (v : Int))).heap[g]? = some (.cells (Bs (xs.set k v)).toArray 5 (0, 0)) := by
  rw [setCell_eq_setRow w g k _ 5 _ _ h]
  have e := setRow_heap w g _ ((Bs xs).toArray.setIfInBounds k (.int .u8 (v : Int))) 5 (0, 0) h
  rw [e, ← getD_set_bs]
  simp
theorem row_other {w : World} {g k g' : Nat} {v : Value} (hne : g' ≠ g) : (w.setCell ⟨g, k, none⟩ v).heap[g']? = w.heap[g']? := heap_setCell_other w ⟨g, k, none⟩ g' v hne
theorem row_cell {w : World} {g k : Nat} {xs : List Nat} (h : w.heap[g]? = some (.cells (Bs xs).toArray 5 (0, 0))) (hk : k < xs.length) : w.cell? ⟨g, k, none⟩ = some (.int .u8 (xs.getD k 0 : Nat)) := by
  rw [Lib.cell_of_heap h]
  simp [Bs, List.getD, List.getElem?_eq_getElem hk]
theorem getD_set_same {xs : List Nat} {k v : Nat} (hk : k < xs.length) : (xs.set k v).getD k 0 = v := by
  rw [List.getD_eq_getElem?_getD, List.getElem?_set_self hk]; rfl
theorem getD_set_diff {xs : List Nat} {k j v : Nat} (h : j ≠ k) : (xs.set k v).getD j 0 = xs.getD j 0 := by
  rw [List.getD_eq_getElem?_getD, List.getElem?_set_ne (fun e => h e.symm), ← List.getD_eq_getElem?_getD]
theorem set_lt {xs : List Nat} {k v : Nat} (h : ∀ c ∈ xs, c < 256) (hv : v < 256) : ∀ c ∈ xs.set k v, c < 256 := by
  intro c hc
  rcases List.mem_or_eq_of_mem_set hc with h1 | rfl
  · exact h c h1
  · exact hv
/-- What the k-th byte of both is. -/
def orN (xs ys : List Nat) (j : Nat) : Nat := if j < ys.length then xs.getD j 0 ||| ys.getD j 0 else xs.getD j 0
theorem orN_lt {xs ys : List Nat} (hx : ∀ c ∈ xs, c < 256) (hy : ∀ c ∈ ys, c < 256) (j : Nat) : orN xs ys j < 256 := by
  unfold orN
  split
  · exact Nat.or_lt_two_pow (n := 8) (getD_lt hx j) (getD_lt hy j)
  · exact getD_lt hx j
/-- The three rows of SieveBits: of zeros, of 255 up to k, of both up to k. -/
structure Tri (w0 w : World) (g1 g2 g3 n k : Nat) (xs ys A C : List Nat) : Prop where
  z : w.heap[g1]? = some (.cells (Bs (List.replicate n 0)).toArray 5 (0, 0))
  f : w.heap[g2]? = some (.cells (Bs A).toArray 5 (0, 0))
  b : w.heap[g3]? = some (.cells (Bs C).toArray 5 (0, 0))
  la : A.length = n
  lc : C.length = n
  fa : ∀ j, j < k → A.getD j 0 = 255
  fc : ∀ j, j < k → C.getD j 0 = orN xs ys j
  ta : ∀ c ∈ A, c < 256
  tc : ∀ c ∈ C, c < 256
  below : Below w0.heap.size w0 w
  n1 : w0.heap.size ≤ g1
  n2 : w0.heap.size ≤ g2
  n3 : w0.heap.size ≤ g3
  d12 : g1 ≠ g2
  d13 : g1 ≠ g3
  d23 : g2 ≠ g3
theorem Tri.step {w0 w : World} {g1 g2 g3 n k : Nat} {xs ys A C : List Nat} (h : Tri w0 w g1 g2 g3 n k xs ys A C) (hk : k < n) (x : Nat) (hx : x < 256) (he : x = orN xs ys k) {w' : World}
    (e1 : ∀ g, g ≠ g2 → g ≠ g3 → w'.heap[g]? = w.heap[g]?) (e2 : w'.heap[g2]? = some (.cells (Bs (A.set k 255)).toArray 5 (0, 0))) (e3 : w'.heap[g3]? = some (.cells (Bs (C.set k x)).toArray 5 (0, 0))) (hb : Below w0.heap.size w0 w') :
    Tri w0 w' g1 g2 g3 n (k + 1) xs ys (A.set k 255) (C.set k x) := by
  refine ⟨(e1 g1 h.d12 h.d13).trans h.z, e2, e3, by rw [List.length_set]; exact h.la, by rw [List.length_set]; exact h.lc, fun j hj => ?_, fun j hj => ?_, set_lt h.ta (by decide), set_lt h.tc hx, hb, h.n1, h.n2, h.n3, h.d12, h.d13, h.d23⟩
  · by_cases e : j = k
    · subst e; exact getD_set_same (by rw [h.la]; exact hk)
    · rw [getD_set_diff e]; exact h.fa j (by omega)
  · by_cases e : j = k
    · subst e; rw [getD_set_same (by rw [h.lc]; exact hk)]; exact he
    · rw [getD_set_diff e]; exact h.fc j (by omega)
theorem Tri.two {w0 w : World} {g1 g2 g3 n k : Nat} {xs ys A C : List Nat} (h : Tri w0 w g1 g2 g3 n k xs ys A C) (hk : k < n) (x : Nat) (hx : x < 256) (he : x = orN xs ys k) :
    Tri w0 ((w.setCell ⟨g2, k, none⟩ (.int .u8 255)).setCell ⟨g3, k, none⟩ (.int .u8 (x : Int))) g1 g2 g3 n (k + 1) xs ys (A.set k 255) (C.set k x) := by
  refine h.step hk x hx he (fun g e2 e3 => ?_) ?_ ?_ ?_
  · rw [row_other e3, row_other e2]
  · rw [row_other h.d23]
    exact row_set (v := 255) h.f
  · exact row_set ((row_other h.d23.symm).trans h.b)
  · exact (h.below.setCell (p := ⟨g2, k, none⟩) h.n2 _).setCell (p := ⟨g3, k, none⟩) h.n3 _
theorem Tri.three {w0 w : World} {g1 g2 g3 n k : Nat} {xs ys A C : List Nat} (h : Tri w0 w g1 g2 g3 n k xs ys A C) (hk : k < n) (y x : Nat) (hx : x < 256) (he : x = orN xs ys k) :
    Tri w0 (((w.setCell ⟨g2, k, none⟩ (.int .u8 255)).setCell ⟨g3, k, none⟩ (.int .u8 (y : Int))).setCell ⟨g3, k, none⟩ (.int .u8 (x : Int))) g1 g2 g3 n (k + 1) xs ys (A.set k 255) (C.set k x) := by
  refine h.step hk x hx he (fun g e2 e3 => ?_) ?_ ?_ ?_
  · rw [row_other e3, row_other e3, row_other e2]
  · rw [row_other h.d23, row_other h.d23]
    exact row_set (v := 255) h.f
  · have e := row_set (k := k) (v := x) (row_set (k := k) (v := y) ((row_other (k := k) (v := .int .u8 255) h.d23.symm).trans h.b))
    rw [List.set_set] at e
    exact e
  · exact ((h.below.setCell (p := ⟨g2, k, none⟩) h.n2 _).setCell (p := ⟨g3, k, none⟩) h.n3 _).setCell (p := ⟨g3, k, none⟩) h.n3 _
theorem Tri.drew {w0 w : World} {g1 g2 g3 n k : Nat} {xs ys A C : List Nat} (h : Tri w0 w g1 g2 g3 n k xs ys A C) : Tri w0 w.drew g1 g2 g3 n k xs ys A C := ⟨h.z, h.f, h.b, h.la, h.lc, h.fa, h.fc, h.ta, h.tc, h.below.drew, h.n1, h.n2, h.n3, h.d12, h.d13, h.d23⟩
theorem Tri.full {w0 w : World} {g1 g2 g3 n : Nat} {xs ys A C : List Nat} (h : Tri w0 w g1 g2 g3 n n xs ys A C) : A = List.replicate n 255 :=
  nums_ext (by rw [h.la]; simp) (fun i hi => by rw [h.fa i (by rw [← h.la]; exact hi)]; rw [h.la] at hi; simp [List.getD, hi])
theorem Tri.more {w0 w : World} {g1 g2 g3 n : Nat} {xs ys A C : List Nat} (h : Tri w0 w g1 g2 g3 n n xs ys A C) (hn : xs.length = n) (s : ByteArray) (hb : hasB xs s = true) : hasB C s = true :=
  has_more (by rw [h.lc, hn]) (fun i hi => by
    rw [h.fc i (by omega)]
    unfold orN
    split
    · exact ⟨_, rfl⟩
    · exact ⟨0, by simp⟩) s hb
theorem three_at (w : World) (o : Obj) (g : Nat) (h1 : w.heap.size ≤ g) (h2 : g ≤ w.heap.size + 2) : (((w.alloc o).alloc o).alloc o).drew.heap[g]? = some o := by
  show (((w.alloc o).alloc o).alloc o).heap[g]? = some o
  have e : g = w.heap.size ∨ g = w.heap.size + 1 ∨ g = w.heap.size + 2 := by omega
  rcases e with rfl | rfl | rfl
  · rw [heap_alloc_old _ _ (by simp; omega), heap_alloc_old _ _ (by simp), heap_alloc_new]
  · rw [heap_alloc_old _ _ (by simp)]
    have := heap_alloc_new (w.alloc o) o
    simpa using this
  · have := heap_alloc_new ((w.alloc o).alloc o) o
    simpa using this
theorem tri0 (w : World) (Z : Array Value) (n g1 g2 g3 : Nat) (xs ys : List Nat) (hZ : (Bs (List.replicate n 0)).toArray = Z) (a1 : w.heap.size ≤ g1 ∧ g1 ≤ w.heap.size + 2) (a2 : w.heap.size ≤ g2 ∧ g2 ≤ w.heap.size + 2) (a3 : w.heap.size ≤ g3 ∧ g3 ≤ w.heap.size + 2) (d1 : g1 ≠ g2) (d2 : g1 ≠ g3) (d3 : g2 ≠ g3) :
    Tri w (((w.alloc (.cells Z 5)).alloc (.cells Z 5)).alloc (.cells Z 5)).drew g1 g2 g3 n 0 xs ys (List.replicate n 0) (List.replicate n 0) := by
  subst hZ
  have hz : ∀ c ∈ List.replicate n 0, c < 256 := by intro c hc; have := List.eq_of_mem_replicate hc; omega
  exact ⟨three_at _ _ _ a1.1 a1.2, three_at _ _ _ a2.1 a2.2, three_at _ _ _ a3.1 a3.2, by simp, by simp, fun j hj => absurd hj (by omega), fun j hj => absurd hj (by omega), hz, hz,
    (((((Below.refl _ _).alloc (Nat.le_refl _) _).alloc (by simp) _).alloc (by simp; omega) _)).drew, a1.1, a2.1, a3.1, d1, d2, d3⟩
end Go.Proofs.Ytlcbjmbphekliaa.Sv
namespace Go.Proofs.Ytlcbjmbphekliaa.Sv
open Go.RowKit Go.WideShapes

/-- A row of four marks. -/
structure Four (w : World) (v : Value) (g c : Nat) (l : List Nat) : Prop where
  v : v = .slice (some ⟨g, 0, none⟩) 4 c
  row : ∃ cur : Array Value, w.heap[g]? = some (.cells cur 3 (0, 0)) ∧ ∀ i, i < 4 → cur[i]? = some (.int .i64 (l.getD i 0 : Nat))
theorem four_of {w : World} {base : Nat} {v : Value} {l : List Nat} (h : w.ownsRow base 3 1 v 4 (Is l)) : ∃ g c, Four w v g c l ∧ base ≤ g := by
  rcases h.2 with ⟨_, hn⟩ | ⟨g, cap, cur, hv, hb, hg, hle, hmax, hsz, htk⟩
  · cases hn
  · refine ⟨g, cap, ⟨hv, cur, hg, fun i hi => ?_⟩, hb⟩
    have hl : l.length = 4 := by have := h.1; rw [Is_len] at this; omega
    have e : (cur.toList.take (4 * 1))[i]? = (Is l)[i]? := by rw [htk]
    rw [List.getElem?_take_of_lt (by omega)] at e
    simp only [Array.getElem?_toList] at e
    rw [e]
    simp [Is, List.getD, List.getElem?_eq_getElem (show i < l.length by omega)]
theorem Four.cell {w : World} {v : Value} {g c : Nat} {l : List Nat} (h : Four w v g c l) {i : Nat} (hi : i < 4) : w.cell? ⟨g, i, none⟩ = some (.int .i64 (l.getD i 0 : Nat)) := by
  obtain ⟨cur, hg, hc⟩ := h.row
  rw [cell_of_row w g i cur 3 _ hg]
  exact hc i hi
theorem Four.same {w w' : World} {v : Value} {g c : Nat} {l : List Nat} (h : Four w v g c l) (e : w'.heap[g]? = w.heap[g]?) : Four w' v g c l := by
  obtain ⟨cur, hg, hc⟩ := h.row
  exact ⟨h.v, cur, e.trans hg, hc⟩
theorem Flt.store {w0 w : World} {g m : Nat} {xs : List Nat} (h : Flt w0 w g m xs) (n j c mk o : Nat) (hj : n / 8 = j) (hc : xs.getD (n / 8) 0 = c) (hk : 2 ^ (n % 8) = mk) (ho : (c ||| mk) = o) :
    Flt w0 (w.setCell ⟨g, j, none⟩ (.int .u8 (o : Int))) g m (setN xs n) := by
  refine ⟨?_, by rw [setN_len]; exact h.len, setN_lt h.lt n, h.below.setCell (p := ⟨g, j, none⟩) h.ge _, h.ge⟩
  unfold setN
  rw [hj, ← hj, hc, hk, ho, hj]
  exact row_set h.blk
theorem Flt.drew {w0 w : World} {g m : Nat} {xs : List Nat} (h : Flt w0 w g m xs) : Flt w0 w.drew g m xs := ⟨h.blk, h.len, h.lt, h.below.drew, h.ge⟩
set_option maxRecDepth 8000 in
set_option maxHeartbeats 8000000 in
theorem rMake_ok (q : Option Addr) (n c m : Nat) (l : List ByteArray) (w : World) (hn : n = l.length) (hl : StrsIn w q l) (hN : (n : Int) ≤ 4096) (hlong : longB l = false) (h0 : (8 : Int) ≤ (m : Int)) (hm : (m : Int) ≤ 65536) (h8 : m % 8 = 0) :
    Calls Try.prog 44 #[.slice q n c, .int .i64 m] w fun e w' => ∃ g, e = .returned (.tuple #[.slice (some ⟨g, 0, none⟩) (m / 8) (m / 8), .int .i64 0]) ∧ Flt w w' g m (makeN l m) := by
  obtain ⟨i0, hi, hz0, hz1, hz2⟩ := info_parts info5
  have HN : Hid (n = l.length ∧ longB l = false ∧ m % 8 = 0) := ⟨hn, hlong, h8⟩
  have HL : Hid (StrsIn w q l) := hl
  have g8 : ((m : Int) % 8 != 0) = false := by simp; omega
  have hd : (m : Int) / 8 = ((m / 8 : Nat) : Int) := by omega
  obtain ⟨L, hLL⟩ : ∃ L, m / 8 = L := ⟨_, rfl⟩
  rw [hLL] at hd ⊢
  have HLL : Hid (m / 8 = L) := hLL
  have hL1 : (L : Int) ≤ 8192 := by omega
  clear hn hl hlong h8 hLL
  go_enter Try.func44, Try.ntmps44
  go_wp2
  go_loop [6] (fun i => ∃ k : Nat, k ≤ n ∧ i = .int .i64 k) (fun i => n - (intOf i).toNat)
  case atStart => exact ⟨0, by omega, rfl⟩
  case round =>
    obtain ⟨k, hk, rfl⟩ := hrel
    by_cases hkn : k < n
    · have hkI : (k : Int) < (n : Int) := by omega
      obtain ⟨ba, oa, rfl⟩ := HL.out.addr (by have := HN.out; omega)
      obtain ⟨x, hx⟩ : ∃ x, l.getD k ByteArray.empty = x := ⟨_, rfl⟩
      have x0 := HL.out.at (i := k) (by have := HN.out; omega)
      rw [hx] at x0
      have hxm : x.size ≤ 256 := longB_no.1 HN.out.2.1 x (by rw [← hx]; exact getD_mem_s (by have := HN.out; omega))
      have g1 : decide ((256 : Int) < (x.size : Int)) = false := decide_eq_false (by omega)
      have HK : Hid (k < n) := hkn
      clear hx hkn hxm
      go_wp2
      go_round
      case rel => exact ⟨k + 1, by have := HK.out; omega, by go_num⟩
      case measure => have := HK.out; simp [intOf]; omega
    · obtain rfl : k = n := by omega
      clear hkn hk
      go_wp2_with (at_make; refine wpList_make_full _ rfl _ _ 22 rfl w.heap.size 5 i0 (.int .u8 0) 1 Try.underlying22 hi hz0 hz1 .i64 .i64 _ _ L rfl rfl (by omega) (by omega) (by rw [hz2]; omega) (by unfold maxLen; omega) (by simp) ?_)
      intro w2 hown hgrow
      have hrow := row_full hown
      rw [zeros_made] at hrow
      have HF : Hid (Flt w w2 w.heap.size m (makeN (l.take 0) m)) := ⟨by rw [List.take_zero]; show w2.heap[w.heap.size]? = some (Obj.cells (Bs (List.replicate (m / 8) 0)).toArray 5 (0, 0)); rw [HLL.out]; exact hrow, makeN_len _ _, makeN_lt _ _, (Below.refl _ _).grown hgrow (Nat.le_refl _) (fun k hk => by cases hk), Nat.le_refl _⟩
      clear hown hgrow hrow
      go_wp2
      go_loopw [8] (fun i wr => ∃ j : Nat, j ≤ k ∧ i = .int .i64 j ∧ Flt w wr w.heap.size m (makeN (l.take j) m)) (fun i _ => k - (intOf i).toNat)
      case atStart => exact ⟨0, by omega, rfl, HF.out⟩
      case round =>
        obtain ⟨j, hj, rfl, hflt⟩ := hrel
        have HFl : Hid (Flt w wr w.heap.size m (makeN (l.take j) m)) := hflt
        clear hflt HF
        by_cases hjn : j < k
        · have hjI : (j : Int) < (k : Int) := by omega
          obtain ⟨ba, oa, rfl⟩ := HL.out.addr (by have := HN.out; omega)
          obtain ⟨x, hx⟩ : ∃ x, l.getD j ByteArray.empty = x := ⟨_, rfl⟩
          have x0 := (HL.out.below HFl.out.below).at (i := j) (by have := HN.out; omega)
          rw [hx] at x0
          have hxm : x.size ≤ 256 := longB_no.1 HN.out.2.1 x (by rw [← hx]; exact getD_mem_s (by have := HN.out; omega))
          have HX : Hid (l.getD j ByteArray.empty = x ∧ j < l.length ∧ j < k ∧ (x.size : Int) ≤ 256) := ⟨hx, by have := HN.out; omega, hjn, by omega⟩
          clear hx hjn hxm
          go_wp2_with fail
          refine (rmarks_any x m _ HX.out.2.2.2 (by omega) hm).mono ?_
          rintro e w3 ⟨v3, rfl, ho3, hb3⟩
          obtain ⟨gl, cl, hfour, hgl⟩ := four_of ho3
          have HV := hfour.v
          subst HV
          have HF3 : Hid (Flt w w3 w.heap.size m (setsN (makeN (l.take j) m) ((marksN x m).take 0)) ∧ Four w3 (.slice (some ⟨gl, 0, none⟩) 4 cl) gl cl (marksN x m) ∧ gl ≠ w.heap.size) := ⟨HFl.out.next hb3, hfour, by have := HFl.out.below.size; have := lt_heap HFl.out.blk; omega⟩
          clear hb3 ho3 hfour hgl
          go_wp2
          go_loopw [10] (fun i wq => ∃ t : Nat, t ≤ 4 ∧ i = .int .i64 t ∧ Flt w wq w.heap.size m (setsN (makeN (l.take j) m) ((marksN x m).take t)) ∧ Four wq (.slice (some ⟨gl, 0, none⟩) 4 cl) gl cl (marksN x m)) (fun i _ => 4 - (intOf i).toNat)
          case atStart => exact ⟨0, by omega, rfl, HF3.out.1, HF3.out.2.1⟩
          case round =>
            obtain ⟨t, ht, rfl, hft, hfr⟩ := hrel
            by_cases htn : t < 4
            · have HFT : Hid (Flt w wr w.heap.size m (setsN (makeN (l.take j) m) ((marksN x m).take t)) ∧ Four wr (.slice (some ⟨gl, 0, none⟩) 4 cl) gl cl (marksN x m)) := ⟨hft, hfr⟩
              obtain ⟨y, hy⟩ : ∃ y, (marksN x m).getD t 0 = y := ⟨_, rfl⟩
              have cy := hfr.cell htn
              rw [hy] at cy
              have hym : y < m := by rw [← hy, marksN_at x m t htn]; exact Nat.mod_lt _ (by omega)
              have hyL : y / 8 < L := by have := HLL.out; have := HN.out.2.2; omega
              obtain ⟨jj, hjj⟩ : ∃ jj, y / 8 = jj := ⟨_, rfl⟩
              obtain ⟨cc, hcc⟩ : ∃ cc, (setsN (makeN (l.take j) m) ((marksN x m).take t)).getD (y / 8) 0 = cc := ⟨_, rfl⟩
              have hck := row_cell hft.blk (k := y / 8) (by rw [hft.len, HLL.out]; exact hyL)
              have hfz : wr.frozen? ⟨w.heap.size, y / 8, none⟩ = false := frozen_of_row _ _ _ _ _ hft.blk
              have hc8 : cc < 256 := by rw [← hcc]; exact getD_lt hft.lt _
              rw [hcc] at hck
              rw [hjj] at hck hfz hyL
              obtain ⟨rr, hrr⟩ : ∃ rr, y % 8 = rr := ⟨_, rfl⟩
              obtain ⟨mk, hmk⟩ : ∃ mk, 2 ^ (y % 8) = mk := ⟨_, rfl⟩
              have hpl : mk < 256 := by rw [← hmk]; exact pow_lt y
              have hor := or_u8 cc mk hc8 hpl
              obtain ⟨oo, hoo⟩ : ∃ oo, (cc ||| mk) = oo := ⟨_, rfl⟩
              rw [hoo] at hor
              have hpm : (2 : Int) ^ rr % 256 = (mk : Int) := by
                have e : ((2 ^ rr : Nat) : Int) = (mk : Int) := by rw [← hrr, hmk]
                rw [← e]
                rw [← hrr, hmk] at e
                have : (2 : Int) ^ rr = ((2 ^ rr : Nat) : Int) := by simp
                rw [this, ← hrr, hmk]
                omega
              have hI : (y : Int) / 8 = (jj : Int) := by omega
              have hI2 : (y : Int) % 8 = (rr : Int) := by omega
              have hr8 : (rr : Int) < 8 := by omega
              have hjI : (jj : Int) < (L : Int) := by omega
              have hj0 : (0 : Int) ≤ (jj : Int) := by omega
              have hr0 : (0 : Int) ≤ (rr : Int) := by omega
              have hjw : IntKind.i64.wrap (jj : Int) = (jj : Int) := by rw [IntKind.wrap_i64]; omega
              have hrw : IntKind.i64.wrap (rr : Int) = (rr : Int) := by rw [IntKind.wrap_i64]; omega
              have hyI : (y : Int) ≤ 65536 := by omega
              have htI : (t : Int) < 4 := by omega
              have HY : Hid (y / 8 = jj ∧ (setsN (makeN (l.take j) m) ((marksN x m).take t)).getD (y / 8) 0 = cc ∧ 2 ^ (y % 8) = mk ∧ (cc ||| mk) = oo ∧ (marksN x m).getD t 0 = y ∧ t < 4) := ⟨hjj, hcc, hmk, hoo, hy, htn⟩
              have hgne : gl ≠ w.heap.size := HF3.out.2.2
              clear hft hfr hy hjj hcc hmk hoo hrr htn hym
              go_wp2
              go_region
              all_goals
                go_wp2
                go_roundw
                case rel =>
                  refine ⟨t + 1, by have := HY.out; omega, by go_num, ?_, ?_⟩
                  · rw [setsN_take _ _ t (by rw [marksN_len]; exact HY.out.2.2.2.2.2), HY.out.2.2.2.2.1]
                    exact (HFT.out.1.store y jj cc mk oo HY.out.1 HY.out.2.1 HY.out.2.2.1 HY.out.2.2.2.1).drew
                  · exact HFT.out.2.same (row_other hgne)
                case measure => have := HY.out; simp [intOf]; omega
            · obtain rfl : t = 4 := by omega
              have HF7 : Hid (Flt w wr w.heap.size m (makeN (l.take (j + 1)) m)) := by
                rw [makeN_take l m j HX.out.2.1, HX.out.1]; exact hft
              clear hft hfr htn
              go_wp2
              go_roundw
              case rel => exact ⟨j + 1, by have := HX.out; omega, by go_num, HF7.out⟩
              case measure => have := HX.out; simp [intOf]; omega
        · obtain rfl : j = k := by omega
          go_wp2
          go_ret2
          refine ⟨w.heap.size, rfl, ?_⟩
          have := HFl.out
          rw [List.take_of_length_le (by have := HN.out; omega)] at this
          exact this
end Go.Proofs.Ytlcbjmbphekliaa.Sv
namespace Go.Proofs.Ytlcbjmbphekliaa.Sv
open Go.RowKit Go.WideShapes

theorem rMake_many (q : Option Addr) (n c : Nat) (z : Int) (w : World) (hN : (4096 : Int) < (n : Int)) :
    Calls Try.prog 44 #[.slice q n c, .int .i64 z] w fun e w' => e = .returned (.tuple #[.slice none 0 0, .int .i64 4]) ∧ w' = w := by
  go_enter Try.func44, Try.ntmps44
  go_wp2
  go_ret2
  exact ⟨rfl, rfl⟩
set_option maxRecDepth 8000 in
set_option maxHeartbeats 4000000 in
theorem rMake_long (q : Option Addr) (n c : Nat) (z : Int) (l : List ByteArray) (w : World) (hn : n = l.length) (hl : StrsIn w q l) (hN : (n : Int) ≤ 4096) (hlong : longB l = true) :
    Calls Try.prog 44 #[.slice q n c, .int .i64 z] w fun e w' => e = .returned (.tuple #[.slice none 0 0, .int .i64 3]) ∧ w' = w := by
  have HN : Hid (n = l.length ∧ longB l = true) := ⟨hn, hlong⟩
  have HL : Hid (StrsIn w q l) := hl
  clear hn hl hlong
  go_enter Try.func44, Try.ntmps44
  go_wp2
  go_loop [6] (fun i => ∃ k : Nat, k ≤ n ∧ i = .int .i64 k ∧ Hid (∀ j, j < k → (l.getD j ByteArray.empty).size ≤ 256)) (fun i => n - (intOf i).toNat)
  case atStart => exact ⟨0, by omega, rfl, fun j hj => absurd hj (by omega)⟩
  case round =>
    obtain ⟨k, hk, rfl, hall⟩ := hrel
    by_cases hkn : k < n
    · have hkI : (k : Int) < (n : Int) := by omega
      obtain ⟨ba, oa, rfl⟩ := HL.out.addr (by have := HN.out; omega)
      obtain ⟨x, hx⟩ : ∃ x, l.getD k ByteArray.empty = x := ⟨_, rfl⟩
      have x0 := HL.out.at (i := k) (by have := HN.out; omega)
      rw [hx] at x0
      have HX : Hid (l.getD k ByteArray.empty = x ∧ k < n) := ⟨hx, hkn⟩
      clear hx hkn
      by_cases hxm : x.size ≤ 256
      · have g1 : decide ((256 : Int) < (x.size : Int)) = false := decide_eq_false (by omega)
        have HM : Hid (∀ j, j < k + 1 → (l.getD j ByteArray.empty).size ≤ 256) := fun j hj => by
          rcases Nat.lt_or_ge j k with h' | h'
          · exact hall.out j h'
          · obtain rfl : j = k := by omega
            rw [HX.out.1]; exact hxm
        clear hxm hall
        go_wp2
        go_round
        case rel => exact ⟨k + 1, by have := HX.out; omega, by go_num, HM⟩
        case measure => have := HX.out; simp [intOf]; omega
      · have g1 : decide ((256 : Int) < (x.size : Int)) = true := decide_eq_true (by omega)
        clear hxm hall
        go_wp2
        go_ret2
        exact ⟨rfl, rfl⟩
    · exfalso
      have HK : longB l = false := longB_no.2 (fun s hs => by
        obtain ⟨j, hj, rfl⟩ := List.getElem_of_mem hs
        have := hall.out j (by have := HN.out; omega)
        rw [List.getD_eq_getElem?_getD, List.getElem?_eq_getElem hj] at this
        exact this)
      rw [HN.out.2] at HK
      cases HK
set_option maxRecDepth 8000 in
set_option maxHeartbeats 4000000 in
theorem rMake_arg (q : Option Addr) (n c : Nat) (z : Int) (l : List ByteArray) (w : World) (hn : n = l.length) (hl : StrsIn w q l) (hN : (n : Int) ≤ 4096) (hlong : longB l = false) (hz : z < 8 ∨ 65536 < z ∨ z % 8 ≠ 0) :
    Calls Try.prog 44 #[.slice q n c, .int .i64 z] w fun e w' => e = .returned (.tuple #[.slice none 0 0, .int .i64 2]) ∧ w' = w := by
  have HN : Hid (n = l.length ∧ longB l = false) := ⟨hn, hlong⟩
  have HL : Hid (StrsIn w q l) := hl
  have HZ : Hid (z < 8 ∨ 65536 < z ∨ z % 8 ≠ 0) := hz
  clear hn hl hlong hz
  go_enter Try.func44, Try.ntmps44
  go_wp2
  go_loop [6] (fun i => ∃ k : Nat, k ≤ n ∧ i = .int .i64 k) (fun i => n - (intOf i).toNat)
  case atStart => exact ⟨0, by omega, rfl⟩
  case round =>
    obtain ⟨k, hk, rfl⟩ := hrel
    by_cases hkn : k < n
    · have hkI : (k : Int) < (n : Int) := by omega
      obtain ⟨ba, oa, rfl⟩ := HL.out.addr (by have := HN.out; omega)
      obtain ⟨x, hx⟩ : ∃ x, l.getD k ByteArray.empty = x := ⟨_, rfl⟩
      have x0 := HL.out.at (i := k) (by have := HN.out; omega)
      rw [hx] at x0
      have hxm : x.size ≤ 256 := longB_no.1 HN.out.2 x (by rw [← hx]; exact getD_mem_s (by have := HN.out; omega))
      have g1 : decide ((256 : Int) < (x.size : Int)) = false := decide_eq_false (by omega)
      have HK : Hid (k < n) := hkn
      clear hx hkn hxm
      go_wp2
      go_round
      case rel => exact ⟨k + 1, by have := HK.out; omega, by go_num⟩
      case measure => have := HK.out; simp [intOf]; omega
    · obtain rfl : k = n := by omega
      clear hkn hk
      by_cases h1 : z < 8
      · go_wp2
        go_ret2
        exact ⟨rfl, rfl⟩
      · by_cases h2 : 65536 < z
        · go_wp2
          go_ret2
          exact ⟨rfl, rfl⟩
        · have g1 : (z % 8 != 0) = true := by have := HZ.out; simp; omega
          have h3 : 8 ≤ z := by omega
          have h4 : z ≤ 65536 := by omega
          clear h1 h2
          go_wp2
          go_ret2
          exact ⟨rfl, rfl⟩
theorem rMake_u (q : Option Addr) (n c : Nat) (l : List ByteArray) (z : Int) (w : World) (hn : n = l.length) (hl : StrsIn w q l) (E : Nat) (hE : makeE l z = E) :
    Calls Try.prog 44 #[.slice q n c, .int .i64 z] w fun e w' => ∃ v, e = .returned (.tuple #[v, .int .i64 E]) ∧ Made w w' v l z := by
  subst hE
  by_cases h1 : 4096 < l.length
  · have e : makeE l z = 4 := by unfold makeE; rw [if_pos h1]
    rw [e]
    refine (rMake_many q n c z w (by omega)).mono ?_
    rintro _ w' ⟨rfl, rfl⟩
    exact ⟨_, rfl, fun _ => rfl, fun h => (by rw [e] at h; cases h), Below.refl _ _⟩
  · cases h2 : longB l with
    | true =>
      have e : makeE l z = 3 := by unfold makeE; rw [if_neg h1, if_pos h2]
      rw [e]
      refine (rMake_long q n c z l w hn hl (by omega) h2).mono ?_
      rintro _ w' ⟨rfl, rfl⟩
      exact ⟨_, rfl, fun _ => rfl, fun h => (by rw [e] at h; cases h), Below.refl _ _⟩
    | false =>
      by_cases h3 : z < 8 ∨ 65536 < z ∨ z % 8 ≠ 0
      · have e : makeE l z = 2 := by unfold makeE; rw [if_neg h1, if_neg (by simp [h2]), if_pos h3]
        rw [e]
        refine (rMake_arg q n c z l w hn hl (by omega) h2 h3).mono ?_
        rintro _ w' ⟨rfl, rfl⟩
        exact ⟨_, rfl, fun _ => rfl, fun h => (by rw [e] at h; cases h), Below.refl _ _⟩
      · have e : makeE l z = 0 := makeE_is (by omega) h2 (by omega) (by omega) (by omega)
        rw [e]
        obtain ⟨m, rfl⟩ : ∃ m : Nat, z = m := ⟨z.toNat, by omega⟩
        refine (rMake_ok q n c m l w hn hl (by omega) h2 (by omega) (by omega) (by omega)).mono ?_
        rintro _ w' ⟨g, rfl, hf⟩
        exact ⟨_, rfl, fun h => absurd e h, fun _ => ⟨g, by simp, by simpa using hf.blk, hf.ge⟩, hf.below⟩
def hasE (L : Nat) (s : ByteArray) : Nat := if L < 1 ∨ 8192 < L then 2 else if 256 < s.size then 3 else 0
def hasR (xs : List Nat) (s : ByteArray) : Bool := if hasE xs.length s = 0 then hasB xs s else false
theorem Has_u (p : Option Addr) (L cap : Nat) (xs : List Nat) (s : ByteArray) (w : World) (hL : L = xs.length) (hb : BIn w p xs) (r : Bool) (hr : hasR xs s = r) (E : Nat) (hE : hasE xs.length s = E) :
    Calls Try.prog 61 #[.slice p L cap, .string s] w fun e w' => e = .returned (.tuple #[.bool r, .int .i64 E]) ∧ Below w.heap.size w w' := by
  subst hE hr
  by_cases h1 : L < 1 ∨ 8192 < L
  · have e : hasE xs.length s = 2 := by unfold hasE; rw [if_pos (by omega)]
    have er : hasR xs s = false := by unfold hasR; rw [e]; rfl
    rw [e, er]
    exact (Has_arg p L cap s w (by omega)).mono fun _ _ ⟨a, b⟩ => ⟨a, by rw [b]; exact Below.refl _ _⟩
  · by_cases h2 : 256 < s.size
    · have e : hasE xs.length s = 3 := by unfold hasE; rw [if_neg (by omega), if_pos h2]
      have er : hasR xs s = false := by unfold hasR; rw [e]; rfl
      rw [e, er]
      exact (Has_long p L cap s w (by omega) (by omega) (by omega)).mono fun _ _ ⟨a, b⟩ => ⟨a, by rw [b]; exact Below.refl _ _⟩
    · have e : hasE xs.length s = 0 := by unfold hasE; rw [if_neg (by omega), if_neg h2]
      have er : hasR xs s = hasB xs s := by unfold hasR; rw [if_pos e]
      rw [e, er]
      exact Has_ok p L cap xs s w hL hb (by omega) (by omega) (by omega) _ rfl
theorem bit_div (c r : Nat) : (c / 2 ^ r % 2 = 0) ↔ c.testBit r = false := by
  rw [Nat.testBit_eq_decide_div_mod_eq, decide_eq_false_iff_not]
  omega
end Go.Proofs.Ytlcbjmbphekliaa.Sv
namespace Go.Proofs.Ytlcbjmbphekliaa
open Go.RowKit Go.WideShapes

theorem pall_any (q : Option Addr) (n c : Nat) (ss : List ShV) (w : World) (h : Sheets w q n ss) (hz : n ≤ 1000000) (hl : (pagesOf ss).flatten.length ≤ 1000000) :
    Calls Try.prog 49 #[.slice q n c] w fun e w' => ∃ v, e = .returned v ∧ EOwn w' w.heap.size v (pagesOf ss).flatten ∧ Below w.heap.size w w' := by
  have HB := betweenA q n c ss ByteArray.empty w h hz hl
  have e1 : betG (skipA ByteArray.empty) (keepA ByteArray.empty) (pagesOf ss) = (pagesOf ss).flatten := by
    unfold betG
    rw [← List.flatMap_id]
    congr 1
    funext p
    rw [if_neg (by simp [skipA, ltB_empty])]
    rw [List.filter_eq_self.2 (fun x _ => by simp [keepA, ltB_empty])]
    rfl
  rw [e1] at HB
  clear e1
  go_enter Try.func49, Try.ntmps49
  go_wp2_with fail
  refine HB.mono ?_
  rintro e w1 ⟨v, rfl, ho, hb⟩
  go_wp2
  go_ret
  exact ⟨v, rfl, ho, hb⟩
theorem keys_short {l : List EntV} (h : ∀ x ∈ l, OkE x) : Sv.longB (keysE l) = false := by
  rw [Sv.longB_no]
  intro s hs
  obtain ⟨x, hx, rfl⟩ := List.mem_map.1 hs
  exact (h x hx).key2
theorem sieve_ok {l : List EntV} (h : checkE l = 0) (h0 : 0 < l.length) : Sv.makeE (keysE l) ((((10 * l.length + 7) / 8 * 8 : Nat) : Int)) = 0 := by
  obtain ⟨h1, h2, _⟩ := (checkE_rise l).1 h
  refine Sv.makeE_is (by simp [keysE]; exact h1) (keys_short h2) (by omega) (by omega) (by omega)
/-- Texts of the call's own in a row, the first k of them written. -/
def keyCells (l : List EntV) (k n : Nat) : List Value := ((l.take k).map fun x => Value.string x.key) ++ List.replicate (n - k) (.string ⟨#[]⟩)
theorem keyCells_set {l : List EntV} {k n : Nat} (hk : k < l.length) (hn : n = l.length) {y : EntV} (hy : l.getD k zeroE = y) : (keyCells l k n).toArray.setIfInBounds k (.string y.key) = (keyCells l (k + 1) n).toArray := by
  apply Array.toList_inj.1
  rw [Array.toList_setIfInBounds, List.toList_toArray, List.toList_toArray]
  unfold keyCells
  rw [take_snoc hk hy, List.map_append, List.append_assoc]
  have hl : ((l.take k).map fun x => Value.string x.key).length = k := by rw [List.length_map, List.length_take]; omega
  rw [List.set_append_right _ _ (by omega), hl, Nat.sub_self, show n - k = (n - (k + 1)) + 1 by omega, List.replicate_succ, List.set_cons_zero]
  rfl
theorem keyCells_in {w : World} {g n : Nat} {l : List EntV} {fr : Nat × Nat} (hg : w.heap[g]? = some (.cells (keyCells l n n).toArray 9 fr)) (hn : n = l.length) : Sv.StrsIn w (some ⟨g, 0, none⟩) (keysE l) := by
  intro hp
  refine ⟨g, 0, rfl, fun i hi => ?_⟩
  have hi' : i < l.length := by simpa [keysE] using hi
  rw [cell_of_row w g (0 + i) _ _ _ hg, Nat.zero_add]
  unfold keyCells
  rw [List.take_of_length_le (by omega), Nat.sub_self]
  simp [keysE, List.getD, hi']
theorem keyCells_zero (l : List EntV) (n : Nat) : (madeCells #[Value.string ⟨#[]⟩] n) = (keyCells l 0 n).toArray := by
  apply Array.toList_inj.1
  rw [toList_madeCells_one]
  simp [keyCells]
structure OnK (w : World) (l : List EntV) (n k : Nat) (wr : World) : Prop where
  blk : wr.heap[w.heap.size]? = some (.cells (keyCells l k n).toArray 9 (0, 0))
  bel : Below w.heap.size w wr
theorem OnK.next {w wr : World} {l : List EntV} {n k : Nat} (h : OnK w l n k wr) (hk : k < l.length) (hn : n = l.length) {y : EntV} (hy : l.getD k zeroE = y) (o : Obj) : OnK w l n (k + 1) ((wr.alloc o).setCell ⟨w.heap.size, k, none⟩ (.string y.key)) := by
  refine ⟨?_, (below_bt h.bel (below_alloc _ _)).setCell (p := ⟨w.heap.size, k, none⟩) (Nat.le_refl _) _⟩
  rw [← keyCells_set hk hn hy]
  exact block_set (block_below h.blk (below_alloc _ _)) _
theorem OnK.cell {w wr : World} {l : List EntV} {n k : Nat} (h : OnK w l n k wr) (hk : k < l.length) (hn : n = l.length) : wr.cell? ⟨w.heap.size, k, none⟩ = some (.string ⟨#[]⟩) ∧ wr.frozen? ⟨w.heap.size, k, none⟩ = false := by
  refine ⟨?_, by simp [World.frozen?, h.blk]⟩
  rw [cell_of_row wr _ k _ _ _ h.blk]
  have hl : ((l.take k).map fun x => Value.string x.key).length = k := by rw [List.length_map, List.length_take]; omega
  unfold keyCells
  rw [List.getElem?_toArray, List.getElem?_append_right (by omega), hl, Nat.sub_self, List.getElem?_replicate, if_pos (by omega)]
/-- What a sieve answers. -/
structure SvOut (base : Nat) (xs : List Nat) (v : Value) (w' : World) : Prop where
  lies : ∃ p c, v = .slice p xs.length c ∧ BIn w' p xs ∧ xs.length ≤ c ∧ c ≤ maxLen ∧ (p = none → c = 0)
theorem info9s : (Try.prog.info? 9).map (fun i => (i.zero, i.size, i.bytes)) = some (some (.string ⟨#[]⟩), 1, 16) := by kernel_rfl
set_option maxRecDepth 8000 in
set_option maxHeartbeats 1000000 in
theorem sieveOf_any (q : Option Addr) (n c : Nat) (l : List EntV) (w : World) (h : EntsL w q n l) (hc : checkE l = 0) (h0 : 0 < n) :
    Calls Try.prog 53 #[.slice q n c] w fun e w' => ∃ v, e = .returned v ∧ Row w' v (sieveN l) ∧ Below w.heap.size w w' := by
  obtain ⟨i0, hi, hz0, hz1, hz2⟩ := info_parts' info9s
  have HE : Hid (EntsIn w q l ∧ n = l.length) := ⟨h.lies, h.n⟩
  have HC : Hid (checkE l = 0) := hc
  have hz : (n : Int) ≤ 4096 := by have := ((checkE_rise l).1 hc).1; have := h.n; omega
  have hz1' : (1 : Int) ≤ (n : Int) := by omega
  obtain ⟨wh, hwh⟩ : ∃ wh, (10 * n + 7) / 8 = wh := ⟨_, rfl⟩
  have hq : (10 * (n : Int) + 8 - 1) / 8 = (wh : Int) := by omega
  have HWH : Hid ((10 * n + 7) / 8 = wh) := hwh
  have hwb : (wh : Int) ≤ 8192 := by omega
  have hwb0 : (1 : Int) ≤ (wh : Int) := by omega
  obtain ⟨m, hm⟩ : ∃ m, wh * 8 = m := ⟨_, rfl⟩
  have hmI : (wh : Int) * 8 = (m : Int) := by omega
  have HM : Hid (wh * 8 = m) := hm
  clear h hc h0 hwh hm
  go_enter Try.func53, Try.ntmps53
  go_wp2_with (at_make; refine wpList_make_full _ rfl _ _ 77 rfl w.heap.size 9 i0 (.string ⟨#[]⟩) 1 Try.underlying77 hi hz0 hz1 .i64 .i64 _ _ n rfl rfl (by omega) (by omega) (by rw [hz2]; omega) (by unfold maxLen; omega) (by simp) ?_)
  intro w2 hown hgrow
  have hrow := Sv.row_full hown
  have HF : Hid (OnK w l n 0 w2) := ⟨by rw [← keyCells_zero]; rw [Array.toArray_toList] at hrow; exact hrow, (Below.refl _ _).grown hgrow (Nat.le_refl _) (fun k hk => by cases hk)⟩
  clear hown hgrow hrow
  go_wp2
  go_loopw [14] (fun i wr => ∃ k : Nat, k ≤ n ∧ i = .int .i64 k ∧ OnK w l n k wr) (fun i _ => n - (intOf i).toNat)
  case atStart => exact ⟨0, by omega, rfl, HF.out⟩
  case round =>
    obtain ⟨k, hk, rfl, hon⟩ := hrel
    have HO : Hid (OnK w l n k wr) := hon
    clear hon HF
    by_cases hkn : k < n
    · have hkI : (k : Int) < (n : Int) := by omega
      have hkl : k < l.length := by have := HE.out.2; omega
      obtain ⟨b, o, rfl⟩ := HE.out.1.addr (by omega)
      obtain ⟨x0, x1, x2, x3⟩ := (HE.out.1.below HO.out.bel).at hkl
      obtain ⟨x, hx⟩ : ∃ x, l.getD k zeroE = x := ⟨_, rfl⟩
      rw [hx] at x0 x1 x2 x3
      obtain ⟨ke, ve, se, ge⟩ := x
      simp only at x0 x1 x2 x3
      obtain ⟨c0, f0⟩ := OnK.cell (wr := wr.alloc (.cells #[.string ke, .string ve, .int .i64 se, .bool ge] 29)) ⟨block_below HO.out.blk (below_alloc _ _), below_bt HO.out.bel (below_alloc _ _)⟩ hkl HE.out.2
      have HX : Hid (l.getD k zeroE = ⟨ke, ve, se, ge⟩ ∧ k < l.length ∧ k < n) := ⟨hx, hkl, hkn⟩
      clear hx hkl hkn
      go_wp2
      go_roundw
      case rel => exact ⟨k + 1, by have := HX.out; omega, by go_num, HO.out.next HX.out.2.1 HE.out.2 HX.out.1 _⟩
      case measure => have := HX.out; simp [intOf]; omega
    · obtain rfl : k = n := by omega
      have HMK := Sv.Make_ok (some ⟨w.heap.size, 0, none⟩) k k m (keysE l) wr (by simp [keysE]; exact HE.out.2) (keyCells_in HO.out.blk HE.out.2) hz (keys_short ((checkE_rise l).1 HC.out).2.1) (by omega) (by omega) (by have := HM.out; omega)
      go_wp2_with fail
      refine HMK.mono ?_
      rintro e w3 ⟨g, rfl, hflt⟩
      have HFL : Hid (Sv.Flt wr w3 g m (Sv.makeN (keysE l) m)) := hflt
      clear hflt HMK
      go_wp2
      go_ret
      have hs : sieveN l = Sv.makeN (keysE l) m := by unfold sieveN; rw [← HE.out.2, HWH.out, HM.out]
      have hlen : (sieveN l).length = m / 8 := by rw [hs]; exact HFL.out.len
      refine ⟨_, rfl, ⟨some ⟨g, 0, none⟩, m / 8, by rw [hlen]; rfl, ?_, by omega, by unfold maxLen; have := HM.out; omega, by simp⟩, below_bt HO.out.bel HFL.out.below⟩
      rw [hs]
      exact Sv.bin_row HFL.out.blk HFL.out.lt
end Go.Proofs.Ytlcbjmbphekliaa
namespace Go.Proofs.Ytlcbjmbphekliaa
open Go.RowKit Go.WideShapes

/-- A table as it is read into: its pages and its sieve. -/
structure TabIn (w : World) (v : Value) (ss : List ShV) : Prop where
  lies : ∃ q c vs, v = .agg #[.slice q ss.length c, vs] ∧ Sheets w q ss.length ss ∧ Row w vs (sieveN (pagesOf ss).flatten)
theorem TabIn.below {w w' : World} {v : Value} {ss : List ShV} (h : TabIn w v ss) (hb : Below w.heap.size w w') : TabIn w' v ss := by
  obtain ⟨q, c, vs, h1, h2, h3⟩ := h.lies
  exact ⟨q, c, vs, h1, h2.below hb, h3.below hb⟩
/-- So much of a table is small. -/
structure FewT (ss : List ShV) : Prop where
  n : ss.length ≤ 1000000
  l : (pagesOf ss).flatten.length ≤ 1000000
theorem set2_at {B g : Nat} {w w' : World} {a b : Value} (h : Below B w w') (hg : B ≤ g) : Below B w ((w'.setCell ⟨g, 0, none⟩ a).setCell ⟨g, 1, none⟩ b) := (h.setCell (p := ⟨g, 0, none⟩) hg a).setCell (p := ⟨g, 1, none⟩) hg b
set_option maxRecDepth 8000 in
set_option maxHeartbeats 1000000 in
theorem tableOf_any (q : Option Addr) (c : Nat) (ss : List ShV) (w : World) (h : Sheets w q ss.length ss) (hf : FewT ss) (l : List EntV) (hl : (pagesOf ss).flatten = l) (hc : checkE l = 0) (h0 : 0 < l.length) :
    Calls Try.prog 30 #[.slice q ss.length c] w fun e w' => ∃ vs, e = .returned (.agg #[.slice q ss.length c, vs]) ∧ Row w' vs (sieveN l) ∧ Below w.heap.size w w' := by
  have HBX : Hid ((w.alloc (.cells #[.slice none 0 0, .slice none 0 0] 65)).heap[w.heap.size]? = some (.cells #[.slice none 0 0, .slice none 0 0] 65 (0, 0))) := heap_alloc_new _ _
  have HAL := pall_any q ss.length c ss _ (h.below (below_alloc w (.cells #[.slice none 0 0, .slice none 0 0] 65))) hf.n hf.l
  rw [hl] at HAL
  have HC : Hid (checkE l = 0 ∧ 0 < l.length) := ⟨hc, h0⟩
  clear h hc h0 hf hl
  go_enter Try.func30, Try.ntmps30
  go_wp2_with fail
  refine HAL.mono ?_
  rintro e w1 ⟨v1, rfl, ho1, hb1⟩
  obtain ⟨q1, c1, rfl, _, _, _⟩ := ho1.form
  have HB1 : Hid (Below w.heap.size w w1) := below_bt (below_alloc _ _) hb1
  have HX1 : Hid (w1.heap[w.heap.size]? = some (.cells #[.slice none 0 0, .slice none 0 0] 65 (0, 0))) := block_below HBX.out hb1
  have HSV := sieveOf_any q1 l.length c1 l w1 ⟨rfl, ho1.ents⟩ HC.out.1 HC.out.2
  clear ho1 hb1 HAL
  go_wp2_with fail
  refine HSV.mono ?_
  rintro e w2 ⟨v2, rfl, hr2, hb2⟩
  obtain ⟨p2, c2, rfl, hbin, hcc⟩ := hr2.lies
  have HB2 : Hid (Below w.heap.size w w2) := below_bt HB1.out hb2
  have HX2 : Hid (w2.heap[w.heap.size]? = some (.cells #[.slice none 0 0, .slice none 0 0] 65 (0, 0))) := block_below HX1.out hb2
  have HR2 : Hid (BIn w2 p2 (sieveN l) ∧ (sieveN l).length ≤ c2 ∧ c2 ≤ maxLen ∧ (p2 = none → c2 = 0)) := ⟨hbin, hcc⟩
  obtain ⟨⟨z0, z1⟩, f0, f1⟩ := two2 HX2.out
  clear hb2 HSV hr2 hbin hcc
  go_wp2
  (try simp only [Exit.inBlock, Exit.then])
  refine bodyPost_ret (v := .agg #[.slice q ss.length c, .slice p2 (sieveN l).length c2]) ?_ rfl ⟨_, rfl, ⟨p2, c2, rfl, ?_, HR2.out.2⟩, set2_at HB2.out (Nat.le_refl _)⟩
  · rw [results_cell1 rfl]
    go_simp
  · exact bin_grown (g := w.heap.size) (block_set HX2.out (.slice q ss.length c)) (by simp) (by simp) (bin_grown HX2.out (by simp) (by simp) HR2.out.1 (grown_set _ _ _ _)) (grown_set _ _ _ _)
set_option maxHeartbeats 1000000 in
theorem mayHave_any (q : Option Addr) (n c : Nat) (p : Option Addr) (m cp : Nat) (xs : List Nat) (key : ByteArray) (w : World) (hb : BIn w p xs) (hm : m = xs.length) (r : Bool) (hr : Sv.hasR xs key = r) :
    Calls Try.prog 33 #[.agg #[.slice q n c, .slice p m cp], .string key] w fun e w' => e = .returned (.bool r) ∧ Below w.heap.size w w' := by
  obtain ⟨E, hE⟩ : ∃ E, Sv.hasE xs.length key = E := ⟨_, rfl⟩
  have HHA := Sv.Has_u p m cp xs key _ hm (hb.alloc (.cells #[.slice q n c, .slice p m cp] 65)) r hr E hE
  have HRE : Hid (E ≠ 0 → r = false) := by
    intro h
    rw [← hr]
    unfold Sv.hasR
    rw [hE]
    simp [h]
  clear hb hm hr hE
  go_enter Try.func33, Try.ntmps33
  go_wp2_with fail
  refine HHA.mono ?_
  rintro e w1 ⟨rfl, hb1⟩
  have HB : Hid (Below w.heap.size w w1) := below_bt (below_alloc _ _) hb1
  clear hb1 HHA
  cases r with
  | false =>
    go_wp2
    go_ret
    exact ⟨rfl, HB.out⟩
  | true =>
    have hE0 : E = 0 := Classical.byContradiction fun h => by have := HRE.out h; cases this
    subst hE0
    go_wp2
    go_ret
    exact ⟨rfl, HB.out⟩
end Go.Proofs.Ytlcbjmbphekliaa
