/-
  A digest under way: what its words and its block are behind some bytes. Numbers alone.
-/
import Derived.Test.YtoagaddciapmkaaDoorJ07
import Derived.BigQuiet
import Derived.Deep.Cut
import Derived.Deep.OwnRows
import Derived.Test.YtoagaddciapmkaaDoorJ05
import Derived.Laws.AppendOwnNone
import Derived.WalkLawsBesides
import Derived.WalkSpells
namespace Go.Proofs.YtoagaddciapmkaaDoor
open Go.RowKit Go.WideShapes

theorem unhex_cons (c d : Nat) (a : List Nat) : unhexN (c :: d :: a) = match halfN c, halfN d, unhexN a with | some x, some y, some r => some ((16 * x + y) :: r) | _, _, _ => none := by rw [unhexN]; cases halfN c <;> cases halfN d <;> cases unhexN a <;> rfl
theorem unhex_app : ∀ (a b : List Nat), a.length % 2 = 0 → unhexN (a ++ b) = match unhexN a, unhexN b with | some x, some y => some (x ++ y) | _, _ => none
  | [], b, _ => by
    show unhexN b = _
    cases unhexN b <;> rfl
  | [_], b, h => by simp at h
  | c :: d :: a, b, h => by
    have ih := unhex_app a b (by simp at h; omega)
    show unhexN (c :: d :: (a ++ b)) = _
    rw [unhex_cons, unhex_cons, ih]
    cases halfN c <;> cases halfN d <;> cases unhexN a <;> cases unhexN b <;> rfl
theorem unhex_pair (c d : Nat) : unhexN [c, d] = match halfN c, halfN d with | some x, some y => some [16 * x + y] | _, _ => none := by
  show (match halfN c, halfN d, unhexN [] with | some x, some y, some r => some ((16 * x + y) :: r) | _, _, _ => none) = _
  cases halfN c <;> cases halfN d <;> rfl
theorem take_pair (l : List Nat) (k : Nat) (h : 2 * k + 1 < l.length) : l.take (2 * (k + 1)) = l.take (2 * k) ++ [l.getD (2 * k) 0, l.getD (2 * k + 1) 0] := by
  rw [show 2 * (k + 1) = 2 * k + 1 + 1 by omega, List.take_add_one, List.take_add_one, List.append_assoc]
  congr 1
  simp [List.getD, List.getElem?_eq_getElem h, List.getElem?_eq_getElem (show 2 * k < l.length by omega)]
theorem unhex_more {l r : List Nat} {k x y : Nat} (h : 2 * k + 1 < l.length) (hr : unhexN (l.take (2 * k)) = some r) (hx : halfN (l.getD (2 * k) 0) = some x) (hy : halfN (l.getD (2 * k + 1) 0) = some y) : unhexN (l.take (2 * (k + 1))) = some (r ++ [16 * x + y]) := by
  rw [take_pair l k h, unhex_app _ _ (by rw [List.length_take]; omega), hr, unhex_pair, hx, hy]
theorem unhex_no {l : List Nat} {k : Nat} (h : 2 * k + 1 < l.length) (hn : halfN (l.getD (2 * k) 0) = none ∨ halfN (l.getD (2 * k + 1) 0) = none) : unhexN l = none := by
  have e : unhexN (l.take (2 * (k + 1))) = none := by
    rw [take_pair l k h, unhex_app _ _ (by rw [List.length_take]; omega), unhex_pair]
    rcases hn with hn | hn
    · rw [hn]; cases unhexN (l.take (2 * k)) <;> rfl
    · rw [hn]; cases unhexN (l.take (2 * k)) <;> cases halfN (l.getD (2 * k) 0) <;> rfl
  have := unhex_app (l.take (2 * (k + 1))) (l.drop (2 * (k + 1))) (by rw [List.length_take]; omega)
  rw [List.take_append_drop, e] at this
  rw [this]
theorem or_half : ∀ x y : Fin 16, bits BinOp.or IntKind.i64 ((x.val : Int) * 16) (y.val : Int) = ((16 * x.val + y.val : Nat) : Int) := by decide +kernel
theorem half_lt {c x : Nat} (h : halfN c = some x) : x < 16 := (hex_half h).2
/-- What Unhex answers. -/
inductive UnhP (w : World) (l : List Nat) (e : Ending) (w' : World) : Prop where
  | ok (r : List Nat) (v : Value) (h : unhexN l = some r) (he : e = .returned (.tuple #[v, .int .i64 0])) (ho : w'.ownsRow w.heap.size 5 1 v r.length (Bs r)) (hb : Below w.heap.size w w')
  | no (h : unhexN l = none) (he : e = .returned (.tuple #[.slice none 0 0, .int .i64 3])) (hb : Below w.heap.size w w')
inductive UnhI (w : World) (l : List Nat) (n : Nat) (t : Value) (wr : World) : Prop where
  | intro (k : Nat) (r : List Nat) (hk : k ≤ n) (ht : t = .int .i64 (k : Int)) (hr : unhexN (l.take (2 * k)) = some r) (hrow : wr.heap[w.heap.size]? = some (.cells (Bs (r ++ List.replicate (n - k) 0)).toArray 5 (0, 0))) (hb : Below w.heap.size w wr)
theorem info5u : (Tryd.prog.info? 5).map (fun i => (i.zero, i.size, i.bytes)) = some (some (.int .u8 0), 1, 1) := by kernel_rfl
theorem cell_bsu {w : World} {g j : Nat} {l : List Nat} {t : TypeId} (hg : w.heap[g]? = some (.cells (Bs l).toArray t (0, 0))) (hj : j < l.length) : w.cell? ⟨g, j, none⟩ = some (.int .u8 (l.getD j 0 : Nat)) := by
  rw [cell_of_row w g j _ t _ hg]
  simp [Bs, List.getD, List.getElem?_eq_getElem hj]
theorem Bs_setu (xs : List Nat) (j v : Nat) : (Bs xs).toArray.setIfInBounds j (.int .u8 (v : Int)) = (Bs (xs.set j v)).toArray := by
  unfold Bs; rw [List.map_set]; simp
theorem drewN_below {B : Nat} {a w : World} (h : Below B a w) (n : Nat) : Below B a (w.drewN n) := ⟨h.os, h.tape, h.output, h.size, h.block⟩
set_option maxHeartbeats 1000000 in
set_option maxRecDepth 100000 in
theorem unhex_any (s : ByteArray) (w : World) (hsz : s.size ≤ 1000000) :
    Calls Tryd.prog 66 #[.string s] w fun e w' => UnhP w (numsOf s) e w' := by
  have hlen := numsOf_len s
  by_cases hodd : s.size % 2 = 1
  · have hr : (s.size : Int) % 2 = 1 := by omega
    have hrT : (s.size : Int).tmod 2 = 1 := by rw [Int.tmod_eq_emod_of_nonneg (by omega)]; omega
    have hno := unhex_odd (s := numsOf s) (by rw [hlen]; exact hodd)
    go_enter Tryd.func66, Tryd.ntmps66
    go_wp2
    go_ret2
    exact .no hno rfl (Below.refl _ _)
  · obtain ⟨n, hn⟩ : ∃ n, s.size / 2 = n := ⟨_, rfl⟩
    have hr : (s.size : Int) % 2 = 0 := by omega
    have hrT : (s.size : Int).tmod 2 = 0 := by rw [Int.tmod_eq_emod_of_nonneg (by omega)]; omega
    have hqI : (s.size : Int) / 2 = (n : Int) := by omega
    have hqT : (s.size : Int).tdiv 2 = (n : Int) := by rw [Int.tdiv_eq_ediv_of_nonneg (by omega)]; omega
    have hn2 : s.size = 2 * n := by omega
    have hmk := run_make_row' (P := Tryd.prog) 22 5 (.int .u8 0) 1 Tryd.underlying22 info5u rfl .i64 .i64 n (by omega) (by omega) w
    have hmc : madeCells #[Value.int IntKind.u8 0] n = (Bs (List.replicate n 0)).toArray := by
      apply Array.ext'
      rw [toList_madeCells_one]
      simp [Bs]
    rw [hmc] at hmk
    have HN2 : Hid _ := hn2
    clear hn hmc hn2
    go_enter Tryd.func66, Tryd.ntmps66
    go_wp2
    go_loopw [18] (fun t wr => UnhI w (numsOf s) n t wr) (fun t _ => n - (intOf t).toNat)
    case atStart => exact ⟨0, [], by omega, rfl, by rw [Nat.mul_zero, List.take_zero]; rfl, _root_.Go.heap_alloc_new _ _, (Below.refl _ _).alloc (Nat.le_refl _) _⟩
    case round =>
      clear hmk
      obtain ⟨k, r, hk, rfl, hr', hrow, hb⟩ := hrel
      have hs2 : s.size = 2 * n := HN2.out
      have hrl : r.length = k := by
        have h1 := unhex_len hr'
        rw [List.length_take, hlen] at h1
        omega
      by_cases hlt : k < n
      · have a1 := str_at s (2 * k) (by omega)
        have a2 := str_at s (2 * k + 1) (by omega)
        have b1 := getD_lt (numsOf_lt s) (2 * k)
        have b2 := getD_lt (numsOf_lt s) (2 * k + 1)
        have hlk : 2 * k + 1 < (numsOf s).length := by rw [hlen]; omega
        have hrowl : (r ++ List.replicate (n - k) 0).length = n := by rw [List.length_append, List.length_replicate]; omega
        have hck := cell_bsu hrow (show k < _ by rw [hrowl]; exact hlt)
        have hfz : wr.frozen? ⟨w.heap.size, k, none⟩ = false := frozen_of_row wr _ _ _ _ hrow
        have HR : Hid _ := hrow
        have HR' : Hid _ := hr'
        have HM : ∀ x y, halfN ((numsOf s).getD (2 * k) 0) = some x → halfN ((numsOf s).getD (2 * k + 1) 0) = some y → unhexN ((numsOf s).take (2 * (k + 1))) = some (r ++ [16 * x + y]) := fun x y hx hy => unhex_more hlk hr' hx hy
        have HNO : halfN ((numsOf s).getD (2 * k) 0) = none ∨ halfN ((numsOf s).getD (2 * k + 1) 0) = none → unhexN (numsOf s) = none := unhex_no hlk
        obtain ⟨j, hj⟩ : ∃ j, 2 * k = j := ⟨_, rfl⟩
        obtain ⟨j1, hj1⟩ : ∃ j1, j + 1 = j1 := ⟨_, rfl⟩
        rw [hj] at a1 a2 b1 b2 HM HNO
        rw [hj1] at a2 b2 HM HNO
        have hjI : 2 * (k : Int) = (j : Int) := by omega
        have hj1I : (j : Int) + 1 = (j1 : Int) := by omega
        have hjs : (j : Int) < (s.size : Int) := by omega
        have hj1s : (j1 : Int) < (s.size : Int) := by omega
        have hkI : (k : Int) < (n : Int) := by omega
        have w1 := worth_any _ b1
        have w2 := worth_any _ b2
        generalize (numsOf s).getD j 0 = c1 at a1 b1 w1 HM HNO
        generalize (numsOf s).getD j1 0 = c2 at a2 b2 w2 HM HNO
        have Hhm : Hid _ := HM
        have Hhn : Hid _ := HNO
        clear hrow hr' HM HNO hj hj1 hs2
        cases h1 : halfN c1 with
        | none =>
          rw [worth_none h1] at w1
          have HH1 : Hid _ := h1
          generalize worthN c2 = z2 at w2
          have W1 : Hid _ := w1
          have W2 : Hid _ := w2
          clear w1 w2 h1
          go_upto_region 7 with fail
          go_quiet (first | (go_at_call 76; exact Calls.quiet_of_same (W1.out _)) | (go_at_call 76; exact Calls.quiet_of_same (W2.out _)))
          go_wp2
          go_ret2
          exact .no (Hhn.out (.inl HH1.out)) rfl (drewN_below hb _)
        | some x =>
          rw [worth_some h1] at w1
          have hx16 := half_lt h1
          have HH1 : Hid _ := h1
          cases h2 : halfN c2 with
          | none =>
            rw [worth_none h2] at w2
            have HH2 : Hid _ := h2
            have W1 : Hid _ := w1
            have W2 : Hid _ := w2
            clear w1 w2 h1 h2
            go_upto_region 7 with fail
            go_quiet (first | (go_at_call 76; exact Calls.quiet_of_same (W1.out _)) | (go_at_call 76; exact Calls.quiet_of_same (W2.out _)))
            go_wp2
            go_ret2
            exact .no (Hhn.out (.inr HH2.out)) rfl (drewN_below hb _)
          | some y =>
            rw [worth_some h2] at w2
            have hy16 := half_lt h2
            have HH2 : Hid _ := h2
            have hor := or_half ⟨x, hx16⟩ ⟨y, hy16⟩
            simp only [] at hor
            have hxy : ((16 * x + y : Nat) : Int) % 256 = ((16 * x + y : Nat) : Int) := by omega
            obtain ⟨z, hz⟩ : ∃ z, 16 * x + y = z := ⟨_, rfl⟩
            rw [hz] at hor hxy
            have HZ : Hid _ := hz
            have hz256 : z < 256 := by omega
            have W1 : Hid _ := w1
            have W2 : Hid _ := w2
            clear w1 w2 h1 h2 hz
            go_upto_region 7 with fail
            go_quiet (first | (go_at_call 76; exact Calls.quiet_of_same (W1.out _)) | (go_at_call 76; exact Calls.quiet_of_same (W2.out _)))
            go_wp2
            go_roundw
            case rel =>
              refine ⟨k + 1, r ++ [z], by omega, rfl, by rw [← HZ.out]; exact Hhm.out x y HH1.out HH2.out, ?_, (drewN_below hb _).setCell (by simp) _⟩
              refine (heap_setCell_same _ _ _ _ _ _ HR.out).trans ?_
              rw [Bs_setu, List.set_append_right _ _ (by omega), hrl, Nat.sub_self, show n - k = (n - (k + 1)) + 1 by omega, List.replicate_succ, List.set_cons_zero, List.append_assoc]
              rfl
            case measure => simp [intOf]; omega
      · obtain rfl : k = n := by omega
        rw [Nat.sub_self, List.replicate_zero, List.append_nil] at hrow
        rw [show 2 * k = (numsOf s).length by rw [hlen]; omega, List.take_length] at hr'
        go_wp2
        go_ret2
        refine .ok r _ hr' rfl ?_ hb
        rw [hrl]
        exact ⟨by simp [Bs, hrl], .inr ⟨w.heap.size, k, _, rfl, Nat.le_refl _, hrow, Nat.le_refl _, by unfold maxLen; omega, by simp [Bs, hrl], by rw [Nat.mul_one]; exact List.take_of_length_le (by simp [Bs, hrl])⟩⟩
end Go.Proofs.YtoagaddciapmkaaDoor
namespace Go.Proofs.YtoagaddciapmkaaDoor
open Go.RowKit Go.WideShapes Go.Maps

/-- What stands behind s bytes. -/
def tailN (s : Nat) : List Nat := 128 :: List.replicate ((119 - s % 64) % 64) 0 ++ be8 (s * 8)
theorem longerN_tail (b : List Nat) : longerN b = b ++ tailN b.length := by unfold longerN tailN; simp
theorem info5 : (Tryd.prog.info? 5).map (fun i => (i.zero, i.size, i.bytes)) = some (some (.int .u8 0), 1, 1) := by kernel_rfl
theorem make72 (L : Nat) (hL : L ≤ 72) (w : World) : (Instr.makeSlice 22 (.int .u64 (L : Int)) (.int .i64 72)).run Tryd.prog w = .ok (.slice (some ⟨w.heap.size, 0, none⟩) L 72) (w.alloc (.cells (Bs (List.replicate 72 0)).toArray 5)) := by
  obtain ⟨i0, hi, hz0, hz1, hz2⟩ := info_parts info5
  have hr := run_make (P := Tryd.prog) w 22 5 i0 _ Tryd.underlying22 hi hz0 .u64 .i64 L 72 (by omega) (by omega) (by rw [hz2]; decide) (by decide)
  have e : madeCells (Value.int IntKind.u8 0).cells (72 * i0.size) = (Bs (List.replicate 72 0)).toArray := by
    rw [hz1]
    apply Array.ext'
    rw [show (Value.int IntKind.u8 0).cells = #[Value.int IntKind.u8 0] from rfl, toList_madeCells_one]
    rfl
  simp only [Int.toNat_natCast] at hr
  rw [show (72 : Int).toNat = 72 from rfl, e] at hr
  exact hr
theorem made72_owns (L : Nat) (hL : L ≤ 72) (w : World) : (w.alloc (.cells (Bs (List.replicate 72 0)).toArray 5)).ownsRow w.heap.size 5 1 (.slice (some ⟨w.heap.size, 0, none⟩) L 72) L (Bs (List.replicate L 0)) := by
  refine ⟨by simp [Bs], .inr ⟨w.heap.size, 72, _, rfl, Nat.le_refl _, _root_.Go.heap_alloc_new _ _, hL, by unfold maxLen; omega, rfl, ?_⟩⟩
  show List.take (L * 1) (Bs (List.replicate 72 0)) = _
  rw [Nat.mul_one]
  unfold Bs
  rw [← List.map_take, List.take_replicate, Nat.min_eq_left hL]
theorem be8_at (n k : Nat) (hk : k < 8) : (be8 n).getD k 0 = n / 2 ^ (8 * (7 - k)) % 256 := by
  unfold be8 List.getD
  rw [List.getElem?_map, List.getElem?_range hk]
  simp only [Option.map_some, Option.getD_some]
  rw [show (256 : Nat) = 2 ^ 8 from rfl, ← Nat.pow_mul]
theorem rel_push {B : Nat} {w wr w1 : World} {v v' : Value} {o : Obj} {xs : List Nat} {c : Nat} {z : Int} (hz : z = (c : Int)) (hown : wr.ownsRow B 5 1 v xs.length (Bs xs)) (hnx : Below B w wr) (hB : B ≤ wr.heap.size)
    (hown' : w1.ownsRow B 5 1 v' (xs.length + 1) (Bs xs ++ [.int .u8 z])) (hgrow : (wr.alloc o).grownBy w1 v.ownBlock) :
    w1.ownsRow B 5 1 v' (xs ++ [c]).length (Bs (xs ++ [c])) ∧ Below B w w1 := by
  subst hz
  refine ⟨by simpa [Bs_app, Bs] using hown', (hnx.alloc hB o).grown hgrow (by simp; omega) (fun k hk => (hown.lt k hk).1)⟩
set_option maxHeartbeats 1000000 in
set_option maxRecDepth 100000 in
theorem behind_any (s : Nat) (w : World) (hs : s < 1152921504606846976) :
    Calls Tryd.prog 61 #[.int .u64 (s : Int)] w fun e w' => ∃ v, e = .returned v ∧ w'.ownsRow w.heap.size 5 1 v (tailN s).length (Bs (tailN s)) ∧ Below w.heap.size w w' := by
  obtain ⟨i0, hi, hz0, hz1, hz2⟩ := info_parts info5
  obtain ⟨z, hz⟩ : ∃ z, (119 - s % 64) % 64 = z := ⟨_, rfl⟩
  have hz64 : z < 64 := by omega
  obtain ⟨ov, hov⟩ : ∃ ov : Nat, (s + 9) % 64 = ov := ⟨_, rfl⟩
  have e1 : ((s : Int) + 1 + 8) % 64 = (ov : Int) := by omega
  have e2 : (64 - (ov : Int)) % 64 = (z : Int) := by omega
  have hov64 : ov < 64 := by omega
  have eL : 1 + (z : Int) = ((1 + z : Nat) : Int) := by omega
  clear hov
  have HT : Hid (tailN s = (128 :: List.replicate z 0) ++ be8 (s * 8)) := by show _ = _; unfold tailN; rw [hz]
  have hmk := make72 (1 + z) (by omega) w
  have o1 := (made72_owns (1 + z) (by omega) w).stored 0 (.int .u8 128)
  have o2 : (Bs (List.replicate (1 + z) 0)).set 0 (.int .u8 128) = Bs (128 :: List.replicate z 0) := by rw [Nat.add_comm]; rfl
  rw [o2] at o1
  have B1 : Below w.heap.size w ((w.alloc (.cells (Bs (List.replicate 72 0)).toArray 5)).setCell ⟨w.heap.size, 0, none⟩ (.int .u8 128)) := ((Below.refl _ _).alloc (Nat.le_refl _) _).setCell (by simp) _
  have hl0 : ((1 + z : Nat) : Int) > 0 := by omega
  have hfz : (w.alloc (.cells (Bs (List.replicate 72 0)).toArray 5)).frozen? ⟨w.heap.size, 0, none⟩ = false := frozen_of_row _ _ _ _ _ (_root_.Go.heap_alloc_new _ _)
  have hce : (w.alloc (.cells (Bs (List.replicate 72 0)).toArray 5)).cell? ⟨w.heap.size, 0, none⟩ = some (.int .u8 0) := by rw [cell_of_row _ _ _ _ _ _ (_root_.Go.heap_alloc_new _ _)]; rfl
  generalize hW : w.alloc (.cells (Bs (List.replicate 72 0)).toArray 5) = W at hmk o1 B1 hfz hce
  obtain ⟨L, hLz⟩ : ∃ L, 1 + z = L := ⟨_, rfl⟩
  rw [hLz] at eL hmk o1 hl0
  have HL : Hid (1 + z = L) := hLz
  clear hLz
  clear hz hW o2
  go_enter Tryd.func61, Tryd.ntmps61
  go_wp2
  simp only [e1, e2]
  clear e1 e2 eL
  go_loopw [20, 4] (fun t v wr => ∃ k : Nat, k ≤ 8 ∧ t = .int .i64 (k : Int) ∧ wr.ownsRow w.heap.size 5 1 v ((128 :: List.replicate z 0) ++ (be8 (s * 8)).take k).length (Bs ((128 :: List.replicate z 0) ++ (be8 (s * 8)).take k)) ∧ Below w.heap.size w wr)
    (fun t _ _ => 8 - (intOf t).toNat)
  case atStart =>
    refine ⟨0, by omega, rfl, ?_, B1⟩
    have hL2 : 1 + z = L := HL.out
    have hLz : ((128 :: List.replicate z 0) ++ (be8 (s * 8)).take 0).length = L := by simp; omega
    rw [hLz]
    simpa using o1.1
  case round =>
    clear o1 B1 hmk hfz hce
    obtain ⟨k, hk8, rfl, hown, hbl⟩ := hrel
    by_cases hlt : k < 8
    · have hsz := hbl.size
      have hat := be8_at (s * 8) k hlt
      have hsh : 8 * (7 - (k : Int)) = ((8 * (7 - k) : Nat) : Int) := by omega
      have hs64 : 8 * (7 - k) < 64 := by omega
      have hlen : ((128 :: List.replicate z 0) ++ (be8 (s * 8)).take k).length ≤ 72 := by
        simp [be8_len]; omega
      have HE : Hid (((128 :: List.replicate z 0) ++ (be8 (s * 8)).take k) ++ [(be8 (s * 8)).getD k 0] = (128 :: List.replicate z 0) ++ (be8 (s * 8)).take (k + 1)) := by
        show _ = _
        rw [List.append_assoc, List.take_add_one]
        congr 1
        congr 1
        simp [List.getD, List.getElem?_eq_getElem (show k < (be8 (s * 8)).length by rw [be8_len]; omega)]
      have HA : Hid _ := hat
      generalize (be8 (s * 8)).getD k 0 = c at HA HE
      generalize ((128 :: List.replicate z 0) ++ (be8 (s * 8)).take k) = xs at hown hlen HE
      generalize 8 * (7 - k) = sv at hsh hs64 HA
      clear hat
      go_wp2_with (at_builtin; refine wpList_append_own _ rfl _ _ 22 rfl w.heap.size 5 i0 (.int .u8 0) 1 1 Tryd.underlying22 hi hz0 hz1 hz2 rfl (by decide) _ _ _ rfl (hown.alloc _) ⟨wr.heap.size, 0, none⟩ 1 1 [.int .u8 ((8 * (s : Int)) / 2 ^ sv % 256)] rfl rfl (cell_one_new _ _ _) ?c2 ?c3 ?c4 ?c5 ?_)
      case c2 => intro u hu; simp at hu; subst hu; rfl
      case c3 => unfold maxLen; omega
      case c4 => omega
      case c5 => simp; omega
      intro v' w1 hown' hgrow _
      have R := rel_push (c := c) (by rw [HA.out]; rw [Int.natCast_emod, Int.natCast_ediv, Int.natCast_pow, Nat.mul_comm]; rfl) hown hbl hsz hown' hgrow
      clear hown' hgrow hown
      go_wp2
      go_roundw
      case rel =>
        refine ⟨k + 1, by omega, rfl, ?_, R.2⟩
        rw [← HE.out]; exact R.1
      case measure => simp [intOf]; omega
    · obtain rfl : k = 8 := by omega
      rw [List.take_of_length_le (by rw [be8_len]; omega), ← HT.out] at hown
      go_wp2
      go_ret
      exact ⟨_, rfl, hown, hbl⟩
end Go.Proofs.YtoagaddciapmkaaDoor
namespace Go.Proofs.YtoagaddciapmkaaDoor
open Go.RowKit Go.WideShapes

structure RunOk (X H blk : List Nat) : Prop where
  len : blk.length = 64
  byt : ∀ x ∈ blk, x < 256
  words : H = roundsN firstH X (X.length / 64)
  pre : blk.take (X.length % 64) = X.drop (X.length / 64 * 64)
theorem roundsN_pre (h l t : List Nat) : ∀ k, k * 64 ≤ l.length → roundsN h (l ++ t) k = roundsN h l k
  | 0, _ => rfl
  | k + 1, hk => by
    have hk' : k * 64 + 64 ≤ l.length := by omega
    rw [roundsN, roundsN, roundsN_pre h l t k (by omega), List.drop_append_of_le_length (by omega), List.take_append_of_le_length (by rw [List.length_drop]; omega)]
theorem RunOk.hlen {X H blk : List Nat} (h : RunOk X H blk) : H.length = 8 := by rw [h.words]; exact roundsN_len _ _
theorem RunOk.hword {X H blk : List Nat} (h : RunOk X H blk) : ∀ x ∈ H, x < 4294967296 := by rw [h.words]; exact roundsN_word _ _
theorem runOk_none : RunOk [] firstH (List.replicate 64 0) := ⟨by simp, fun x hx => by have := List.eq_of_mem_replicate hx; omega, rfl, rfl⟩
/-- The block with c bytes more. -/
def blkN (blk ys : List Nat) (m c : Nat) : List Nat := blk.take m ++ ys.take c ++ blk.drop (m + c)
theorem blkN_len {blk ys : List Nat} {m c : Nat} (hb : blk.length = 64) (hc : c ≤ ys.length) (hm : m + c ≤ 64) : (blkN blk ys m c).length = 64 := by
  unfold blkN
  rw [List.length_append, List.length_append, List.length_take, List.length_take, List.length_drop]
  omega
theorem blkN_byte {blk ys : List Nat} {m c : Nat} (hb : ∀ x ∈ blk, x < 256) (hy : ∀ x ∈ ys, x < 256) : ∀ x ∈ blkN blk ys m c, x < 256 := by
  intro x hx
  unfold blkN at hx
  rcases List.mem_append.1 hx with h | h
  · rcases List.mem_append.1 h with h | h
    · exact hb x (List.mem_of_mem_take h)
    · exact hy x (List.mem_of_mem_take h)
  · exact hb x (List.mem_of_mem_drop h)
theorem blkN_take {blk ys : List Nat} {m c : Nat} (hb : blk.length = 64) (hc : c ≤ ys.length) (hm : m + c ≤ 64) : (blkN blk ys m c).take (m + c) = blk.take m ++ ys.take c := by
  unfold blkN
  rw [List.take_append_of_le_length (by rw [List.length_append, List.length_take, List.length_take]; omega), List.take_of_length_le (by rw [List.length_append, List.length_take, List.length_take]; omega)]
theorem RunOk.part {X H blk ys : List Nat} {c : Nat} (h : RunOk X H blk) (hy : ∀ x ∈ ys, x < 256) (hc : c ≤ ys.length) (hm : X.length % 64 + c < 64) : RunOk (X ++ ys.take c) H (blkN blk ys (X.length % 64) c) := by
  have hl : (X ++ ys.take c).length = X.length + c := by rw [List.length_append, List.length_take]; omega
  have h1 : (X.length + c) / 64 = X.length / 64 := by omega
  have h2 : (X.length + c) % 64 = X.length % 64 + c := by omega
  refine ⟨blkN_len h.len hc (by omega), blkN_byte h.byt hy, ?_, ?_⟩
  · rw [hl, h1, roundsN_pre _ _ _ _ (by omega)]; exact h.words
  · rw [hl, h1, h2, blkN_take h.len hc (by omega), h.pre, List.drop_append_of_le_length (by omega)]
theorem RunOk.full {X H blk ys : List Nat} {c : Nat} (h : RunOk X H blk) (hy : ∀ x ∈ ys, x < 256) (hc : c ≤ ys.length) (hm : X.length % 64 + c = 64) : RunOk (X ++ ys.take c) (roundN H (blkN blk ys (X.length % 64) c)) (blkN blk ys (X.length % 64) c) := by
  have hl : (X ++ ys.take c).length = X.length + c := by rw [List.length_append, List.length_take]; omega
  have h1 : (X.length + c) / 64 = X.length / 64 + 1 := by omega
  have h2 : (X.length + c) % 64 = 0 := by omega
  have hb : blkN blk ys (X.length % 64) c = (X ++ ys.take c).drop (X.length / 64 * 64) := by
    rw [List.drop_append_of_le_length (by omega), ← h.pre]
    have := blkN_take (m := X.length % 64) h.len hc (by omega)
    rw [hm, List.take_of_length_le (by rw [blkN_len h.len hc (by omega)]; omega)] at this
    exact this
  refine ⟨blkN_len h.len hc (by omega), blkN_byte h.byt hy, ?_, ?_⟩
  · rw [hl, h1, roundsN, roundsN_pre _ _ _ _ (by omega), ← h.words]
    congr 1
    rw [hb]
    exact (List.take_of_length_le (by rw [List.length_drop, hl]; omega)).symm
  · rw [hl, h1, h2, List.take_zero, List.drop_of_length_le (by rw [hl]; omega)]
/-- A digest under way as it lies in memory. -/
def rowR (H blk : List Nat) (n : Nat) : List Value := Ws H ++ Bs blk ++ [.int .u64 (n : Int)]
theorem rowR_len {H blk : List Nat} (n : Nat) (hH : H.length = 8) (hb : blk.length = 64) : (rowR H blk n).length = 73 := by simp [rowR, Ws, Bs, hH, hb]
theorem rowR_copy {H blk ys : List Nat} {n m c : Nat} (hH : H.length = 8) (hb : blk.length = 64) (hm : m + c ≤ 64) : (rowR H blk n).take (8 + m) ++ Bs (ys.take c) ++ (rowR H blk n).drop (8 + m + c) = rowR H (blkN blk ys m c) n := by
  have e1 : (rowR H blk n).take (8 + m) = Ws H ++ Bs (blk.take m) := by
    unfold rowR
    rw [List.append_assoc, List.take_append, List.take_of_length_le (by simp [Ws, hH]), show 8 + m - (Ws H).length = m from by simp [Ws, hH], List.take_append_of_le_length (by simp [Bs, hb]; omega)]
    simp [Bs]
  have e2 : (rowR H blk n).drop (8 + m + c) = Bs (blk.drop (m + c)) ++ [.int .u64 (n : Int)] := by
    unfold rowR
    rw [List.append_assoc, List.drop_append, List.drop_of_length_le (by simp [Ws, hH]; omega), show 8 + m + c - (Ws H).length = m + c from by simp [Ws, hH]; omega, List.nil_append, List.drop_append_of_le_length (by simp [Bs, hb]; omega)]
    simp [Bs]
  rw [e1, e2]
  unfold rowR blkN
  simp [Bs, List.append_assoc]
theorem rowR_words {H H' blk : List Nat} {n : Nat} (hH : H.length = 8) (hH' : H'.length = 8) : (rowR H blk n).take 0 ++ Ws H' ++ (rowR H blk n).drop (0 + (Ws H').length) = rowR H' blk n := by
  unfold rowR
  rw [List.append_assoc (Ws H), List.drop_append_of_le_length (by simp [Ws, hH, hH']), List.drop_of_length_le (by simp [Ws, hH, hH'])]
  simp
theorem rowR_size {H blk : List Nat} {n n' : Nat} (hH : H.length = 8) (hb : blk.length = 64) : (rowR H blk n).toArray.setIfInBounds 72 (.int .u64 (n' : Int)) = (rowR H blk n').toArray := by
  unfold rowR
  rw [List.setIfInBounds_toArray, List.set_append_right _ _ (by simp [Ws, Bs, hH, hb])]
  simp [Ws, Bs, hH, hb]
theorem rowR_at72 {H blk : List Nat} {n : Nat} (hH : H.length = 8) (hb : blk.length = 64) : (rowR H blk n).toArray[72]? = some (.int .u64 (n : Int)) := by
  unfold rowR
  rw [List.getElem?_toArray, List.getElem?_append_right (by simp [Ws, Bs, hH, hb])]
  simp [Ws, Bs, hH, hb]
theorem rowR_atW {H blk : List Nat} {n j : Nat} {v : Value} (h : (Ws H)[j]? = some v) : (rowR H blk n).toArray[j]? = some v := by
  unfold rowR
  have hj : j < (Ws H).length := (List.getElem?_eq_some_iff.1 h).1
  rw [List.getElem?_toArray, List.append_assoc, List.getElem?_append_left hj]; exact h
theorem rowR_atB {H blk : List Nat} {n j : Nat} {v : Value} (hH : H.length = 8) (h : (Bs blk)[j]? = some v) : (rowR H blk n).toArray[8 + j]? = some v := by
  unfold rowR
  have hj : j < (Bs blk).length := (List.getElem?_eq_some_iff.1 h).1
  rw [List.getElem?_toArray, List.append_assoc, List.getElem?_append_right (by simp [Ws, hH]), show 8 + j - (Ws H).length = j from by simp [Ws, hH], List.getElem?_append_left hj]; exact h
/-- In memory: behind the bytes X. -/
def RunX (w : World) (g : Nat) (X : List Nat) : Prop := ∃ H blk, RunOk X H blk ∧ w.heap[g]? = some (.cells (rowR H blk X.length).toArray 93 (0, 0))
end Go.Proofs.YtoagaddciapmkaaDoor
