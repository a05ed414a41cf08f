/-
  A file of 130 bytes can be put on a new disk of 100 sectors; no program.
-/
import Derived.Test.YtkgmhmhphgaclabGreatDoorJ21
import Derived.Deep.QuietTactic
import Derived.BigQuiet
import Derived.Test.YtkgmhmhphgaclabGreatDoorJ33
import Derived.Test.YtkgmhmhphgaclabGreatDoorJ32
namespace Go.Proofs.YtkgmhmhphgaclabGreatDoor
set_option maxRecDepth 8000
open Go.RowKit Go.WideShapes

theorem conv_bytes {w : World} {p : Option Addr} {xs : List Nat} (h : BIn w p xs) (c : Nat) : (convert 22 9 (.slice p xs.length c)).run Tryz.prog w = .ok (.string (strOf xs)) w :=
  bin_conv Tryz.underlying22 Tryz.underlying5 Tryz.underlying9 h rfl c
theorem str_eq {xs ys : List Nat} (hx : ∀ c ∈ xs, c < 256) (hy : ∀ c ∈ ys, c < 256) : ((strOf xs).toList == (strOf ys).toList) = decide (xs = ys) := by
  rw [ByteArray.toList_eq, ByteArray.toList_eq, Bool.eq_iff_iff]
  simp only [decide_eq_true_eq, beq_iff_eq]
  exact strOf_eq hx hy
theorem below_drewND {B : Nat} {a w : World} (h : Below B a w) (n : Nat) : Below B a (w.drewN n) := ⟨h.os, h.tape, h.output, h.size, h.block⟩
/-- Are two disks the same? -/
def SameD (c1 c2 : Int) (d1 d2 : List Nat) (w1 w2 : Puts) : Prop := c1 = c2 ∧ d1 = d2 ∧ w1 = w2
theorem same_step {w1 w2 : Puts} {k : Nat} (h1 : k < w1.length) (h2 : k < w2.length) (h : w1.take k = w2.take k) (he : w1.getD k (0, []) = w2.getD k (0, [])) : w1.take (k + 1) = w2.take (k + 1) := by
  rw [take_getD h1, take_getD h2, h, he]
theorem same_not {w1 w2 : Puts} {k : Nat} (he : w1.getD k (0, []) ≠ w2.getD k (0, [])) : w1 ≠ w2 := fun h => he (by rw [h])
theorem same_all {w1 w2 : Puts} (hl : w1.length = w2.length) (h : w1.take w1.length = w2.take w1.length) : w1 = w2 := by
  rw [List.take_length, hl, List.take_length] at h; exact h

end Go.Proofs.YtkgmhmhphgaclabGreatDoor
namespace Go.Proofs.YtkgmhmhphgaclabGreatDoor
set_option maxRecDepth 8000
open Go.RowKit Go.WideShapes

def onesK (x k : Nat) : List Nat := List.replicate k x ++ List.replicate (128 - k) 0
theorem onesK_len (x k : Nat) (h : k ≤ 128) : (onesK x k).length = 128 := by simp [onesK]; omega
theorem onesK_step (x k : Nat) (h : k < 128) : (onesK x k).set k x = onesK x (k + 1) := by
  unfold onesK
  rw [List.set_append_right _ _ (by simp), List.length_replicate, Nat.sub_self, show 128 - k = (128 - (k + 1)) + 1 from by omega, List.replicate_succ, List.set_cons_zero, List.replicate_succ', List.append_assoc]
  rfl
theorem Bs_set (xs : List Nat) (k x : Nat) : (Bs xs).toArray.setIfInBounds k (.int .u8 x) = (Bs (xs.set k x)).toArray := by
  simp [Bs, List.map_set]

/-- Is a disk larger than the statements go through? -/
def largeN (count : Int) (data : List Nat) (ws : Puts) : Prop := (40000 < data.length ∧ 0 < count ∧ count ≤ 4096) ∨ 600000 < data.length ∨ (300 < ws.length ∧ ws.length < 4090) ∨ 4200 < ws.length
instance (count : Int) (data : List Nat) (ws : Puts) : Decidable (largeN count data ws) := by unfold largeN; infer_instance
end Go.Proofs.YtkgmhmhphgaclabGreatDoor
namespace Go.Proofs.YtkgmhmhphgaclabGreatDoor
open Go.RowKit Go.WideShapes Rm

def textL (k : Nat) : List Nat := (List.range k).map fun i => 97 + i % 7
def textK (n k : Nat) : List Nat := textL k ++ List.replicate (n - k) 0
theorem textK_len {n k : Nat} (h : k ≤ n) : (textK n k).length = n := by simp [textK, textL]; omega
theorem textL_bytes (k : Nat) : ∀ c ∈ textL k, c < 256 := by
  intro c hc
  obtain ⟨i, _, rfl⟩ := List.mem_map.1 hc
  omega
theorem textL_len (k : Nat) : (textL k).length = k := by simp [textL]
theorem textK_step {n k : Nat} (h : k < n) : (textK n k).set k (97 + k % 7) = textK n (k + 1) := by
  unfold textK
  rw [List.set_append_right _ _ (by rw [textL_len]; omega)]
  rw [textL_len, Nat.sub_self, show n - k = (n - (k + 1)) + 1 by omega, List.replicate_succ, List.set_cons_zero]
  unfold textL
  rw [List.range_succ, List.map_append]
  simp
def textS (n : Nat) : ByteArray := strOf (textL n)
theorem textS_size (n : Nat) : (textS n).size = n := by unfold textS; rw [strOf_size, textL_len]
theorem textS_nums (n : Nat) : numsOf (textS n) = textL n := by
  have h := (strOf_eq (numsOf_lt (textS n)) (textL_bytes n)).1 (by rw [strOf_nums]; rfl)
  exact h
set_option maxRecDepth 100000 in
set_option maxHeartbeats 1000000 in
theorem text_t (n : Nat) (w : World) (hn : n ≤ 5000) :
    Calls Tryz.prog 20 #[.int .i64 (n : Int)] w fun e w' => e = .returned (.string (textS n)) ∧ Below w.heap.size w w' := by
  obtain ⟨i0, hi, hz0, hz1, hz2⟩ := info_parts info_u8
  have hnI : (n : Int) ≤ 5000 := by omega
  have HN : Hid (n ≤ 5000) := hn
  clear hn
  go_enter Tryz.func20, Tryz.ntmps20
  go_wp2_with (at_make; refine wpList_make_full _ rfl _ _ 22 rfl w.heap.size 5 i0 (.int .u8 0) 1 Tryz.underlying22 hi hz0 hz1 .i64 .i64 _ _ n rfl rfl rfl rfl (by rw [hz2]; have := HN.out; omega) (by have := HN.out; unfold maxLen; omega) (Nat.le_refl _) ?_)
  intro w1 hown hgrow
  have hrow := row_full hown
  have hb1 : Below w.heap.size w w1 := (Below.refl _ _).grown hgrow (Nat.le_refl _) (fun k hk => by cases hk)
  have HR : Hid (w1.heap[w.heap.size]? = some (.cells (Bs (textK n 0)).toArray 5 (0, 0))) := by
    show _ = _
    rw [show textK n 0 = List.replicate n 0 from by simp [textK, textL]]
    rw [zeros_made] at hrow
    exact hrow
  clear hown hgrow hrow
  go_wp2
  go_loopw [4] (fun i wr => ∃ k : Nat, k ≤ n ∧ i = .int .i64 k ∧ Hid (wr.heap[w.heap.size]? = some (.cells (Bs (textK n k)).toArray 5 (0, 0))) ∧ Below w.heap.size w wr) (fun i _ => n - (intOf i).toNat)
  case atStart => exact ⟨0, by omega, rfl, HR, hb1⟩
  case round =>
    obtain ⟨k, hk, rfl, HK, hbk⟩ := hrel
    have HB : Hid (Below w.heap.size w wr) := hbk
    by_cases hkl : k < n
    · have hkI : (k : Int) < (n : Int) := by omega
      have k0 : (0 : Int) ≤ (k : Int) := by omega
      have HKL : Hid (k < n) := hkl
      have hc := cell_of_row wr w.heap.size k _ _ _ HK.out
      rw [show (Bs (textK n k)).toArray[k]? = some (.int .u8 ((textK n k).getD k 0 : Nat)) from by simp [Bs, List.getD, List.getElem?_eq_getElem (show k < (textK n k).length by rw [textK_len hk]; exact hkl)]] at hc
      have hf := frozen_of_row wr w.heap.size k _ _ HK.out
      obtain ⟨x, hx⟩ : ∃ x : Nat, 97 + k % 7 = x := ⟨_, rfl⟩
      have HS : Hid ((wr.setCell ⟨w.heap.size, k, none⟩ (.int .u8 (x : Int))).heap[w.heap.size]? = some (.cells (Bs (textK n (k + 1))).toArray 5 (0, 0))) := by
        show _ = _
        rw [heap_setCell_same wr _ k _ _ _ HK.out, Bs_set, ← hx, textK_step hkl]
      have hxI : (97 : Int) + (k : Int).tmod 7 = (x : Int) := by have := Int.tmod_eq_emod_of_nonneg k0 (b := 7); omega
      have hxI2 : (97 : Int) + (k : Int) % 7 = (x : Int) := by omega
      have hx1 : (x : Int) ≤ 103 := by omega
      have hx0 : (97 : Int) ≤ (x : Int) := by omega
      have hwx : IntKind.u8.wrap (x : Int) = (x : Int) := by rw [IntKind.wrap_u8]; omega
      generalize (textK n k).getD k 0 = cc at *
      clear hk hkl hbk hx
      go_wp2
      go_roundw
      case rel => exact ⟨k + 1, HKL.out, by go_num, HS, HB.out.setCell (Nat.le_refl _) _⟩
      case measure => have := HKL.out; simp [intOf]; omega
    · have hkI : (n : Int) ≤ (k : Int) := by omega
      obtain rfl : k = n := by omega
      have HE : Hid (textK k k = textL k) := by show _ = _; simp [textK]
      have hcv : (convert 22 9 (.slice (some ⟨w.heap.size, 0, none⟩) k k)).run Tryz.prog wr = .ok (.string (strOf (textL k))) wr := by
        have h := bin_row (w := wr) (g := w.heap.size) (xs := textL k) (by have h := HK.out; rw [HE.out] at h; exact h) (textL_bytes k)
        exact conv_at h (textL_len k).symm
      clear hk hkl hbk
      go_wp2
      go_ret
      exact ⟨rfl, HB.out⟩
theorem put_t (name val : ByteArray) (w : World) : Calls Tryz.prog 19 #[.string name, .string val] w fun e w' => e = .returned (.agg #[.string name, .string val, .bool false]) ∧ Below w.heap.size w w' := by
  go_enter Tryz.func19, Tryz.ntmps19
  go_wp2
  (try simp only [Exit.inBlock, Exit.then])
  refine bodyPost_ret (v := .agg #[.string name, .string val, .bool false]) ?_ rfl ⟨rfl, ?_⟩
  · first
      | (rw [results_cell rfl]; go_simp)
      | (simp only [results, Tryz.results19]; go_simp)
  · exact below_alloc _ _
end Go.Proofs.YtkgmhmhphgaclabGreatDoor
namespace Go.Proofs.YtkgmhmhphgaclabGreatDoor
open Go.RowKit Go.WideShapes Rm

def aName : ByteArray := ⟨#[97]⟩
def aFile (n : Nat) : CV := ⟨aName, textS n, false⟩
theorem a_len (n : Nat) : (numsOf (aFile n).val).length = n := by
  show (numsOf (textS n)).length = n
  rw [textS_nums, textL_len]
theorem a_name : isNameN aName = true := by decide +kernel
theorem a_chg (n : Nat) : chgE [] [aFile n] = 0 := by
  have h : oneC [] [aFile n] 0 = 0 := by
    unfold oneC
    rw [show ([aFile n].getD 0 zeroCV) = aFile n from rfl, show (aFile n).key = aName from rfl, a_name]
    rfl
  unfold chgE
  rw [if_neg (by simp)]
  show fromC [] [aFile n] 1 0 = 0
  rw [fromC, h]
  rfl
theorem a_puts (n : Nat) : putsC [aFile n] = [aFile n] := rfl
theorem a_errT : errT 80 100 [] 2 = 0 := by decide +kernel
theorem a_resT : resT 80 100 [] 2 = [(80, 2)] := by decide +kernel
theorem a_place : placeN 100 [] (csOf [aFile 130]) = .ok [⟨aName, 130, [(80, 2)]⟩] := by
  show placeN 100 [] [(aName, numsOf (aFile 130).val)] = _
  have hn : needsN (((numsOf (aFile 130).val).length : Nat) : Int) = 2 := by rw [a_len]; decide
  unfold placeN
  simp only
  rw [hn, if_neg (by decide), a_errT, if_neg (by decide), a_resT, a_len]
  rfl
theorem fmt_gen {D : List Nat} {n : Nat} (h1 : 96 ≤ n) (h2 : n ≤ 4096) (h : FmtIs n D) : ∀ k, k ≤ 8 → genK D [] 8 1 k = 1
  | 0, _ => rfl
  | k + 1, hk => by
    have ih := fmt_gen h1 h2 h k (by omega)
    have hz : beg8 (nowN D [] ((8 + k : Nat) : Int)) = 0 := by
      rw [(fmt_slots h1 h2 h).2 k (by omega), zero_now (8 + k) (by omega)]
      decide +kernel
    rw [genK, ih, hz]
    decide
theorem a_may : May ltS ⟨2, [⟨aName, 130, [(80, 2)]⟩]⟩ :=
  ⟨by decide, by decide, by simp, fun i hi => absurd hi (by simp), by decide +kernel, fun f hf => by rw [List.mem_singleton.1 hf]; exact ⟨a_name, by decide, by decide, by simp, by decide⟩⟩
theorem a_short : (insideN [⟨aName, 130, [(80, 2)]⟩]).length ≤ 952 := by decide +kernel
theorem alive_turn {D : List Nat} (h : FmtIs 100 D) {m : Int} {A : Acts} (ht : TurnIs 100 D [] (some (emptyD, 0)) 0 [aFile 130] m A) : m = 0 ∧ A.length ≤ 200 := by
  cases ht with
  | none h => cases h
  | chg x at_ E h hE h0 =>
    simp only [Option.some.injEq, Prod.mk.injEq] at h
    obtain ⟨rfl, rfl⟩ := h
    exact absurd (hE.symm.trans (a_chg 130)) h0
  | many x at_ h hE hm =>
    simp only [Option.some.injEq, Prod.mk.injEq] at h
    obtain ⟨rfl, rfl⟩ := h
    simp [emptyD, a_puts] at hm
  | place x at_ E h hE hm hp =>
    simp only [Option.some.injEq, Prod.mk.injEq] at h
    obtain ⟨rfl, rfl⟩ := h
    have := a_place.symm.trans hp
    cases this
  | last x o P hx ho hE hm hp hG =>
    simp only [Option.some.injEq, Prod.mk.injEq] at hx
    obtain ⟨rfl, ho8⟩ := hx
    obtain rfl : o = 8 := by omega
    have hg := fmt_gen (n := 100) (by decide) (by decide) h 8 (Nat.le_refl _)
    rw [show emptyD.gen = 1 from rfl, hg] at hG
    omega
  | bad x o P ss G m b hx ho hE hm hp hG hG2 hpm hup hw hm0 =>
    exfalso
    simp only [Option.some.injEq, Prod.mk.injEq] at hx
    obtain ⟨rfl, ho8⟩ := hx
    obtain rfl : o = 8 := by omega
    have hg := fmt_gen (n := 100) (by decide) (by decide) h 8 (Nat.le_refl _)
    rw [show emptyD.gen = 1 from rfl, hg] at hG
    have hP : P = [⟨aName, 130, [(80, 2)]⟩] := by
      have := hp.symm.trans a_place
      exact Except.ok.inj this
    subst hP
    have hs : ss = [⟨aName, 130, [(80, 2)]⟩] := by
      have h1 : ([] ++ [⟨aName, 130, [(80, 2)]⟩] : List FileV).Perm ss := hpm
      exact (List.perm_singleton.1 h1.symm)
    subst hs hG
    have hok : Wrote ⟨2, [⟨aName, 130, [(80, 2)]⟩]⟩ 0 _ := .ok a_may a_short
    exact hm0 (hw.only hok).1
  | ok x o P ss G b F hx ho hE hm hp hG hG2 hpm hup hw hF =>
    refine ⟨rfl, ?_⟩
    have hP : P = [⟨aName, 130, [(80, 2)]⟩] := by
      simp only [Option.some.injEq, Prod.mk.injEq] at hx
      obtain ⟨rfl, _⟩ := hx
      have := hp.symm.trans a_place
      exact Except.ok.inj this
    have hl : F.length ≤ 2 := by
      rw [← hF, hP]
      refine Nat.le_trans (filesA_le _ _) ?_
      decide +kernel
    rw [List.length_append, List.length_append]
    have h2 : (secsA o b 8).length = 8 := by simp [secsA]
    split
    · simp [h2]
    · simp [h2]; omega
end Go.Proofs.YtkgmhmhphgaclabGreatDoor
