/-
  Sixteens read: the program's.
-/
import Derived.Test.YtoagaddciapmkaaDoorXHex
import Derived.BigQuiet
import Derived.Deep.Cut
import Derived.Deep.OwnRows
namespace Go.Proofs.YtoagaddciapmkaaDoor
open Go.RowKit Go.WideShapes

theorem unhex_cons (c d : Nat) (a : List Nat) : unhexN (c :: d :: a) = match halfN c, halfN d, unhexN a with | some x, some y, some r => some ((16 * x + y) :: r) | _, _, _ => none := by rw [unhexN]; cases halfN c <;> cases halfN d <;> cases unhexN a <;> rfl
theorem unhex_app : ∀ (a b : List Nat), a.length % 2 = 0 → unhexN (a ++ b) = match unhexN a, unhexN b with | some x, some y => some (x ++ y) | _, _ => none
  | [], b, _ => by
    show unhexN b = _
    cases unhexN b <;> rfl
  | [_], b, h => by simp at h
  | c :: d :: a, b, h => by
    have ih := unhex_app a b (by simp at h; omega)
    show unhexN (c :: d :: (a ++ b)) = _
    rw [unhex_cons, unhex_cons, ih]
    cases halfN c <;> cases halfN d <;> cases unhexN a <;> cases unhexN b <;> rfl
theorem unhex_pair (c d : Nat) : unhexN [c, d] = match halfN c, halfN d with | some x, some y => some [16 * x + y] | _, _ => none := by
  show (match halfN c, halfN d, unhexN [] with | some x, some y, some r => some ((16 * x + y) :: r) | _, _, _ => none) = _
  cases halfN c <;> cases halfN d <;> rfl
theorem take_pair (l : List Nat) (k : Nat) (h : 2 * k + 1 < l.length) : l.take (2 * (k + 1)) = l.take (2 * k) ++ [l.getD (2 * k) 0, l.getD (2 * k + 1) 0] := by
  rw [show 2 * (k + 1) = 2 * k + 1 + 1 by omega, List.take_add_one, List.take_add_one, List.append_assoc]
  congr 1
  simp [List.getD, List.getElem?_eq_getElem h, List.getElem?_eq_getElem (show 2 * k < l.length by omega)]
theorem unhex_more {l r : List Nat} {k x y : Nat} (h : 2 * k + 1 < l.length) (hr : unhexN (l.take (2 * k)) = some r) (hx : halfN (l.getD (2 * k) 0) = some x) (hy : halfN (l.getD (2 * k + 1) 0) = some y) : unhexN (l.take (2 * (k + 1))) = some (r ++ [16 * x + y]) := by
  rw [take_pair l k h, unhex_app _ _ (by rw [List.length_take]; omega), hr, unhex_pair, hx, hy]
theorem unhex_no {l : List Nat} {k : Nat} (h : 2 * k + 1 < l.length) (hn : halfN (l.getD (2 * k) 0) = none ∨ halfN (l.getD (2 * k + 1) 0) = none) : unhexN l = none := by
  have e : unhexN (l.take (2 * (k + 1))) = none := by
    rw [take_pair l k h, unhex_app _ _ (by rw [List.length_take]; omega), unhex_pair]
    rcases hn with hn | hn
    · rw [hn]; cases unhexN (l.take (2 * k)) <;> rfl
    · rw [hn]; cases unhexN (l.take (2 * k)) <;> cases halfN (l.getD (2 * k) 0) <;> rfl
  have := unhex_app (l.take (2 * (k + 1))) (l.drop (2 * (k + 1))) (by rw [List.length_take]; omega)
  rw [List.take_append_drop, e] at this
  rw [this]
theorem or_half : ∀ x y : Fin 16, bits BinOp.or IntKind.i64 ((x.val : Int) * 16) (y.val : Int) = ((16 * x.val + y.val : Nat) : Int) := by decide +kernel
theorem half_lt {c x : Nat} (h : halfN c = some x) : x < 16 := (hex_half h).2
/-- What Unhex answers. -/
inductive UnhP (w : World) (l : List Nat) (e : Ending) (w' : World) : Prop where
  | ok (r : List Nat) (v : Value) (h : unhexN l = some r) (he : e = .returned (.tuple #[v, .int .i64 0])) (ho : w'.ownsRow w.heap.size 5 1 v r.length (Bs r)) (hb : Below w.heap.size w w')
  | no (h : unhexN l = none) (he : e = .returned (.tuple #[.slice none 0 0, .int .i64 3])) (hb : Below w.heap.size w w')
inductive UnhI (w : World) (l : List Nat) (n : Nat) (t : Value) (wr : World) : Prop where
  | intro (k : Nat) (r : List Nat) (hk : k ≤ n) (ht : t = .int .i64 (k : Int)) (hr : unhexN (l.take (2 * k)) = some r) (hrow : wr.heap[w.heap.size]? = some (.cells (Bs (r ++ List.replicate (n - k) 0)).toArray 5 (0, 0))) (hb : Below w.heap.size w wr)
theorem info5u : (Tryd.prog.info? 5).map (fun i => (i.zero, i.size, i.bytes)) = some (some (.int .u8 0), 1, 1) := by kernel_rfl
theorem cell_bsu {w : World} {g j : Nat} {l : List Nat} {t : TypeId} (hg : w.heap[g]? = some (.cells (Bs l).toArray t (0, 0))) (hj : j < l.length) : w.cell? ⟨g, j, none⟩ = some (.int .u8 (l.getD j 0 : Nat)) := by
  rw [cell_of_row w g j _ t _ hg]
  simp [Bs, List.getD, List.getElem?_eq_getElem hj]
theorem Bs_setu (xs : List Nat) (j v : Nat) : (Bs xs).toArray.setIfInBounds j (.int .u8 (v : Int)) = (Bs (xs.set j v)).toArray := by
  unfold Bs; rw [List.map_set]; simp
theorem drewN_below {B : Nat} {a w : World} (h : Below B a w) (n : Nat) : Below B a (w.drewN n) := ⟨h.os, h.tape, h.output, h.size, h.block⟩
set_option maxHeartbeats 1000000 in
set_option maxRecDepth 100000 in
theorem unhex_any (s : ByteArray) (w : World) (hsz : s.size ≤ 1000000) :
    Calls Tryd.prog 66 #[.string s] w fun e w' => UnhP w (numsOf s) e w' := by
  have hlen := numsOf_len s
  by_cases hodd : s.size % 2 = 1
  · have hr : (s.size : Int) % 2 = 1 := by omega
    have hrT : (s.size : Int).tmod 2 = 1 := by rw [Int.tmod_eq_emod_of_nonneg (by omega)]; omega
    have hno := unhex_odd (s := numsOf s) (by rw [hlen]; exact hodd)
    go_enter Tryd.func66, Tryd.ntmps66
    go_wp2
    go_ret2
    exact .no hno rfl (Below.refl _ _)
  · obtain ⟨n, hn⟩ : ∃ n, s.size / 2 = n := ⟨_, rfl⟩
    have hr : (s.size : Int) % 2 = 0 := by omega
    have hrT : (s.size : Int).tmod 2 = 0 := by rw [Int.tmod_eq_emod_of_nonneg (by omega)]; omega
    have hqI : (s.size : Int) / 2 = (n : Int) := by omega
    have hqT : (s.size : Int).tdiv 2 = (n : Int) := by rw [Int.tdiv_eq_ediv_of_nonneg (by omega)]; omega
    have hn2 : s.size = 2 * n := by omega
    have hmk := run_make_row' (P := Tryd.prog) 22 5 (.int .u8 0) 1 Tryd.underlying22 info5u rfl .i64 .i64 n (by omega) (by omega) w
    have hmc : madeCells #[Value.int IntKind.u8 0] n = (Bs (List.replicate n 0)).toArray := by
      apply Array.ext'
      rw [toList_madeCells_one]
      simp [Bs]
    rw [hmc] at hmk
    have HN2 : Hid _ := hn2
    clear hn hmc hn2
    go_enter Tryd.func66, Tryd.ntmps66
    go_wp2
    go_loopw [18] (fun t wr => UnhI w (numsOf s) n t wr) (fun t _ => n - (intOf t).toNat)
    case atStart => exact ⟨0, [], by omega, rfl, by rw [Nat.mul_zero, List.take_zero]; rfl, _root_.Go.heap_alloc_new _ _, (Below.refl _ _).alloc (Nat.le_refl _) _⟩
    case round =>
      clear hmk
      obtain ⟨k, r, hk, rfl, hr', hrow, hb⟩ := hrel
      have hs2 : s.size = 2 * n := HN2.out
      have hrl : r.length = k := by
        have h1 := unhex_len hr'
        rw [List.length_take, hlen] at h1
        omega
      by_cases hlt : k < n
      · have a1 := str_at s (2 * k) (by omega)
        have a2 := str_at s (2 * k + 1) (by omega)
        have b1 := getD_lt (numsOf_lt s) (2 * k)
        have b2 := getD_lt (numsOf_lt s) (2 * k + 1)
        have hlk : 2 * k + 1 < (numsOf s).length := by rw [hlen]; omega
        have hrowl : (r ++ List.replicate (n - k) 0).length = n := by rw [List.length_append, List.length_replicate]; omega
        have hck := cell_bsu hrow (show k < _ by rw [hrowl]; exact hlt)
        have hfz : wr.frozen? ⟨w.heap.size, k, none⟩ = false := frozen_of_row wr _ _ _ _ hrow
        have HR : Hid _ := hrow
        have HR' : Hid _ := hr'
        have HM : ∀ x y, halfN ((numsOf s).getD (2 * k) 0) = some x → halfN ((numsOf s).getD (2 * k + 1) 0) = some y → unhexN ((numsOf s).take (2 * (k + 1))) = some (r ++ [16 * x + y]) := fun x y hx hy => unhex_more hlk hr' hx hy
        have HNO : halfN ((numsOf s).getD (2 * k) 0) = none ∨ halfN ((numsOf s).getD (2 * k + 1) 0) = none → unhexN (numsOf s) = none := unhex_no hlk
        obtain ⟨j, hj⟩ : ∃ j, 2 * k = j := ⟨_, rfl⟩
        obtain ⟨j1, hj1⟩ : ∃ j1, j + 1 = j1 := ⟨_, rfl⟩
        rw [hj] at a1 a2 b1 b2 HM HNO
        rw [hj1] at a2 b2 HM HNO
        have hjI : 2 * (k : Int) = (j : Int) := by omega
        have hj1I : (j : Int) + 1 = (j1 : Int) := by omega
        have hjs : (j : Int) < (s.size : Int) := by omega
        have hj1s : (j1 : Int) < (s.size : Int) := by omega
        have hkI : (k : Int) < (n : Int) := by omega
        have w1 := worth_any _ b1
        have w2 := worth_any _ b2
        generalize (numsOf s).getD j 0 = c1 at a1 b1 w1 HM HNO
        generalize (numsOf s).getD j1 0 = c2 at a2 b2 w2 HM HNO
        have Hhm : Hid _ := HM
        have Hhn : Hid _ := HNO
        clear hrow hr' HM HNO hj hj1 hs2
        cases h1 : halfN c1 with
        | none =>
          rw [worth_none h1] at w1
          have HH1 : Hid _ := h1
          generalize worthN c2 = z2 at w2
          have W1 : Hid _ := w1
          have W2 : Hid _ := w2
          clear w1 w2 h1
          go_upto_region 7 with fail
          go_quiet (first | (go_at_call 76; exact Calls.quiet_of_same (W1.out _)) | (go_at_call 76; exact Calls.quiet_of_same (W2.out _)))
          go_wp2
          go_ret2
          exact .no (Hhn.out (.inl HH1.out)) rfl (drewN_below hb _)
        | some x =>
          rw [worth_some h1] at w1
          have hx16 := half_lt h1
          have HH1 : Hid _ := h1
          cases h2 : halfN c2 with
          | none =>
            rw [worth_none h2] at w2
            have HH2 : Hid _ := h2
            have W1 : Hid _ := w1
            have W2 : Hid _ := w2
            clear w1 w2 h1 h2
            go_upto_region 7 with fail
            go_quiet (first | (go_at_call 76; exact Calls.quiet_of_same (W1.out _)) | (go_at_call 76; exact Calls.quiet_of_same (W2.out _)))
            go_wp2
            go_ret2
            exact .no (Hhn.out (.inr HH2.out)) rfl (drewN_below hb _)
          | some y =>
            rw [worth_some h2] at w2
            have hy16 := half_lt h2
            have HH2 : Hid _ := h2
            have hor := or_half ⟨x, hx16⟩ ⟨y, hy16⟩
            simp only [] at hor
            have hxy : ((16 * x + y : Nat) : Int) % 256 = ((16 * x + y : Nat) : Int) := by omega
            obtain ⟨z, hz⟩ : ∃ z, 16 * x + y = z := ⟨_, rfl⟩
            rw [hz] at hor hxy
            have HZ : Hid _ := hz
            have hz256 : z < 256 := by omega
            have W1 : Hid _ := w1
            have W2 : Hid _ := w2
            clear w1 w2 h1 h2 hz
            go_upto_region 7 with fail
            go_quiet (first | (go_at_call 76; exact Calls.quiet_of_same (W1.out _)) | (go_at_call 76; exact Calls.quiet_of_same (W2.out _)))
            go_wp2
            go_roundw
            case rel =>
              refine ⟨k + 1, r ++ [z], by omega, rfl, by rw [← HZ.out]; exact Hhm.out x y HH1.out HH2.out, ?_, (drewN_below hb _).setCell (by simp) _⟩
              refine (heap_setCell_same _ _ _ _ _ _ HR.out).trans ?_
              rw [Bs_setu, List.set_append_right _ _ (by omega), hrl, Nat.sub_self, show n - k = (n - (k + 1)) + 1 by omega, List.replicate_succ, List.set_cons_zero, List.append_assoc]
              rfl
            case measure => simp [intOf]; omega
      · obtain rfl : k = n := by omega
        rw [Nat.sub_self, List.replicate_zero, List.append_nil] at hrow
        rw [show 2 * k = (numsOf s).length by rw [hlen]; omega, List.take_length] at hr'
        go_wp2
        go_ret2
        refine .ok r _ hr' rfl ?_ hb
        rw [hrl]
        exact ⟨by simp [Bs, hrl], .inr ⟨w.heap.size, k, _, rfl, Nat.le_refl _, hrow, Nat.le_refl _, by unfold maxLen; omega, by simp [Bs, hrl], by rw [Nat.mul_one]; exact List.take_of_length_le (by simp [Bs, hrl])⟩⟩
end Go.Proofs.YtoagaddciapmkaaDoor
