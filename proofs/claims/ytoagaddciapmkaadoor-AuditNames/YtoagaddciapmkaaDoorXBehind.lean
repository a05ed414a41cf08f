/-
  What stands behind the bytes: the program's.
-/
import Derived.Test.YtoagaddciapmkaaDoorXMixed
import Derived.Laws.AppendOwnNone
import Derived.WalkLawsBesides
import Derived.WalkSpells
namespace Go.Proofs.YtoagaddciapmkaaDoor
open Go.RowKit Go.WideShapes Go.Maps

/-- What stands behind s bytes. -/
def tailN (s : Nat) : List Nat := 128 :: List.replicate ((119 - s % 64) % 64) 0 ++ be8 (s * 8)
theorem longerN_tail (b : List Nat) : longerN b = b ++ tailN b.length := by unfold longerN tailN; simp
theorem info5 : (Tryd.prog.info? 5).map (fun i => (i.zero, i.size, i.bytes)) = some (some (.int .u8 0), 1, 1) := by kernel_rfl
theorem make72 (L : Nat) (hL : L ≤ 72) (w : World) : (Instr.makeSlice 22 (.int .u64 (L : Int)) (.int .i64 72)).run Tryd.prog w = .ok (.slice (some ⟨w.heap.size, 0, none⟩) L 72) (w.alloc (.cells (Bs (List.replicate 72 0)).toArray 5)) := by
  obtain ⟨i0, hi, hz0, hz1, hz2⟩ := info_parts info5
  have hr := run_make (P := Tryd.prog) w 22 5 i0 _ Tryd.underlying22 hi hz0 .u64 .i64 L 72 (by omega) (by omega) (by rw [hz2]; decide) (by decide)
  have e : madeCells (Value.int IntKind.u8 0).cells (72 * i0.size) = (Bs (List.replicate 72 0)).toArray := by
    rw [hz1]
    apply Array.ext'
    rw [show (Value.int IntKind.u8 0).cells = #[Value.int IntKind.u8 0] from rfl, toList_madeCells_one]
    rfl
  simp only [Int.toNat_natCast] at hr
  rw [show (72 : Int).toNat = 72 from rfl, e] at hr
  exact hr
theorem made72_owns (L : Nat) (hL : L ≤ 72) (w : World) : (w.alloc (.cells (Bs (List.replicate 72 0)).toArray 5)).ownsRow w.heap.size 5 1 (.slice (some ⟨w.heap.size, 0, none⟩) L 72) L (Bs (List.replicate L 0)) := by
  refine ⟨by simp [Bs], .inr ⟨w.heap.size, 72, _, rfl, Nat.le_refl _, _root_.Go.heap_alloc_new _ _, hL, by unfold maxLen; omega, rfl, ?_⟩⟩
  show List.take (L * 1) (Bs (List.replicate 72 0)) = _
  rw [Nat.mul_one]
  unfold Bs
  rw [← List.map_take, List.take_replicate, Nat.min_eq_left hL]
theorem be8_at (n k : Nat) (hk : k < 8) : (be8 n).getD k 0 = n / 2 ^ (8 * (7 - k)) % 256 := by
  unfold be8 List.getD
  rw [List.getElem?_map, List.getElem?_range hk]
  simp only [Option.map_some, Option.getD_some]
  rw [show (256 : Nat) = 2 ^ 8 from rfl, ← Nat.pow_mul]
theorem rel_push {B : Nat} {w wr w1 : World} {v v' : Value} {o : Obj} {xs : List Nat} {c : Nat} {z : Int} (hz : z = (c : Int)) (hown : wr.ownsRow B 5 1 v xs.length (Bs xs)) (hnx : Below B w wr) (hB : B ≤ wr.heap.size)
    (hown' : w1.ownsRow B 5 1 v' (xs.length + 1) (Bs xs ++ [.int .u8 z])) (hgrow : (wr.alloc o).grownBy w1 v.ownBlock) :
    w1.ownsRow B 5 1 v' (xs ++ [c]).length (Bs (xs ++ [c])) ∧ Below B w w1 := by
  subst hz
  refine ⟨by simpa [Bs_app, Bs] using hown', (hnx.alloc hB o).grown hgrow (by simp; omega) (fun k hk => (hown.lt k hk).1)⟩
set_option maxHeartbeats 1000000 in
set_option maxRecDepth 100000 in
theorem behind_any (s : Nat) (w : World) (hs : s < 1152921504606846976) :
    Calls Tryd.prog 61 #[.int .u64 (s : Int)] w fun e w' => ∃ v, e = .returned v ∧ w'.ownsRow w.heap.size 5 1 v (tailN s).length (Bs (tailN s)) ∧ Below w.heap.size w w' := by
  obtain ⟨i0, hi, hz0, hz1, hz2⟩ := info_parts info5
  obtain ⟨z, hz⟩ : ∃ z, (119 - s % 64) % 64 = z := ⟨_, rfl⟩
  have hz64 : z < 64 := by omega
  obtain ⟨ov, hov⟩ : ∃ ov : Nat, (s + 9) % 64 = ov := ⟨_, rfl⟩
  have e1 : ((s : Int) + 1 + 8) % 64 = (ov : Int) := by omega
  have e2 : (64 - (ov : Int)) % 64 = (z : Int) := by omega
  have hov64 : ov < 64 := by omega
  have eL : 1 + (z : Int) = ((1 + z : Nat) : Int) := by omega
  clear hov
  have HT : Hid (tailN s = (128 :: List.replicate z 0) ++ be8 (s * 8)) := by show _ = _; unfold tailN; rw [hz]
  have hmk := make72 (1 + z) (by omega) w
  have o1 := (made72_owns (1 + z) (by omega) w).stored 0 (.int .u8 128)
  have o2 : (Bs (List.replicate (1 + z) 0)).set 0 (.int .u8 128) = Bs (128 :: List.replicate z 0) := by rw [Nat.add_comm]; rfl
  rw [o2] at o1
  have B1 : Below w.heap.size w ((w.alloc (.cells (Bs (List.replicate 72 0)).toArray 5)).setCell ⟨w.heap.size, 0, none⟩ (.int .u8 128)) := ((Below.refl _ _).alloc (Nat.le_refl _) _).setCell (by simp) _
  have hl0 : ((1 + z : Nat) : Int) > 0 := by omega
  have hfz : (w.alloc (.cells (Bs (List.replicate 72 0)).toArray 5)).frozen? ⟨w.heap.size, 0, none⟩ = false := frozen_of_row _ _ _ _ _ (_root_.Go.heap_alloc_new _ _)
  have hce : (w.alloc (.cells (Bs (List.replicate 72 0)).toArray 5)).cell? ⟨w.heap.size, 0, none⟩ = some (.int .u8 0) := by rw [cell_of_row _ _ _ _ _ _ (_root_.Go.heap_alloc_new _ _)]; rfl
  generalize hW : w.alloc (.cells (Bs (List.replicate 72 0)).toArray 5) = W at hmk o1 B1 hfz hce
  obtain ⟨L, hLz⟩ : ∃ L, 1 + z = L := ⟨_, rfl⟩
  rw [hLz] at eL hmk o1 hl0
  have HL : Hid (1 + z = L) := hLz
  clear hLz
  clear hz hW o2
  go_enter Tryd.func61, Tryd.ntmps61
  go_wp2
  simp only [e1, e2]
  clear e1 e2 eL
  go_loopw [20, 4] (fun t v wr => ∃ k : Nat, k ≤ 8 ∧ t = .int .i64 (k : Int) ∧ wr.ownsRow w.heap.size 5 1 v ((128 :: List.replicate z 0) ++ (be8 (s * 8)).take k).length (Bs ((128 :: List.replicate z 0) ++ (be8 (s * 8)).take k)) ∧ Below w.heap.size w wr)
    (fun t _ _ => 8 - (intOf t).toNat)
  case atStart =>
    refine ⟨0, by omega, rfl, ?_, B1⟩
    have hL2 : 1 + z = L := HL.out
    have hLz : ((128 :: List.replicate z 0) ++ (be8 (s * 8)).take 0).length = L := by simp; omega
    rw [hLz]
    simpa using o1.1
  case round =>
    clear o1 B1 hmk hfz hce
    obtain ⟨k, hk8, rfl, hown, hbl⟩ := hrel
    by_cases hlt : k < 8
    · have hsz := hbl.size
      have hat := be8_at (s * 8) k hlt
      have hsh : 8 * (7 - (k : Int)) = ((8 * (7 - k) : Nat) : Int) := by omega
      have hs64 : 8 * (7 - k) < 64 := by omega
      have hlen : ((128 :: List.replicate z 0) ++ (be8 (s * 8)).take k).length ≤ 72 := by
        simp [be8_len]; omega
      have HE : Hid (((128 :: List.replicate z 0) ++ (be8 (s * 8)).take k) ++ [(be8 (s * 8)).getD k 0] = (128 :: List.replicate z 0) ++ (be8 (s * 8)).take (k + 1)) := by
        show _ = _
        rw [List.append_assoc, List.take_add_one]
        congr 1
        congr 1
        simp [List.getD, List.getElem?_eq_getElem (show k < (be8 (s * 8)).length by rw [be8_len]; omega)]
      have HA : Hid _ := hat
      generalize (be8 (s * 8)).getD k 0 = c at HA HE
      generalize ((128 :: List.replicate z 0) ++ (be8 (s * 8)).take k) = xs at hown hlen HE
      generalize 8 * (7 - k) = sv at hsh hs64 HA
      clear hat
      go_wp2_with (at_builtin; refine wpList_append_own _ rfl _ _ 22 rfl w.heap.size 5 i0 (.int .u8 0) 1 1 Tryd.underlying22 hi hz0 hz1 hz2 rfl (by decide) _ _ _ rfl (hown.alloc _) ⟨wr.heap.size, 0, none⟩ 1 1 [.int .u8 ((8 * (s : Int)) / 2 ^ sv % 256)] rfl rfl (cell_one_new _ _ _) ?c2 ?c3 ?c4 ?c5 ?_)
      case c2 => intro u hu; simp at hu; subst hu; rfl
      case c3 => unfold maxLen; omega
      case c4 => omega
      case c5 => simp; omega
      intro v' w1 hown' hgrow _
      have R := rel_push (c := c) (by rw [HA.out]; rw [Int.natCast_emod, Int.natCast_ediv, Int.natCast_pow, Nat.mul_comm]; rfl) hown hbl hsz hown' hgrow
      clear hown' hgrow hown
      go_wp2
      go_roundw
      case rel =>
        refine ⟨k + 1, by omega, rfl, ?_, R.2⟩
        rw [← HE.out]; exact R.1
      case measure => simp [intOf]; omega
    · obtain rfl : k = 8 := by omega
      rw [List.take_of_length_le (by rw [be8_len]; omega), ← HT.out] at hown
      go_wp2
      go_ret
      exact ⟨_, rfl, hown, hbl⟩
end Go.Proofs.YtoagaddciapmkaaDoor
