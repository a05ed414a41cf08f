/-
  The limits and errors have their numbers, and the chapter's examples are so.
-/
import Derived.Test.YthebnealkekdmaaRows
import Derived.Test.YthebnealkekdmaaJ07
import Derived.Test.YthebnealkekdmaaJ06
import Derived.WalkKit
import Derived.ProofKit
import Derived.OpenShut
import Derived.ShutString
import Derived.ChangeOld
import Derived.Below
namespace Go.Proofs.Ythebnealkekdmaa.keyNames
open Go.ChangeShapes Go.WideShapes Go.ChangeAt Go.RowKit
open Go.ChangeMaps (open_string shut_string)
set_option linter.unusedVariables false

theorem own : ownKnob Try.prog.godebug = none := by kernel_rfl
theorem laidOut : laidOutB Try.prog = true := by kernel_rfl

theorem zeros_made (n : Nat) : (madeCells #[Value.int .u8 0] n).toList = Bs (List.replicate n 0) := by
  rw [toList_madeCells_one]
  simp [Bs]
def a1L : List PartV := [⟨1, 5, ByteArray.empty⟩]
def a1S : ByteArray := ⟨#[1, 128, 0, 0, 0, 0, 0, 0, 5]⟩
theorem a1_is : IsKey (numsOf a1S) a1L := by
  refine ⟨by show 1 ≤ 8; omega, ?_, by kernel_rfl, by rw [numsOf_len]; exact of_decide_eq_true rfl⟩
  intro p hp
  simp only [a1L, List.mem_cons, List.not_mem_nil, or_false] at hp
  subst hp
  exact ⟨.inl ⟨rfl, rfl⟩, by show wf64 5; unfold wf64; omega⟩
theorem a1_make : makeR a1L = (a1S, 0) := by rw [makeR_of a1_is, strOf_nums]
def b1L : List PartV := [⟨1, (-1), ByteArray.empty⟩]
def b1S : ByteArray := ⟨#[1, 127, 255, 255, 255, 255, 255, 255, 255]⟩
theorem b1_is : IsKey (numsOf b1S) b1L := by
  refine ⟨by show 1 ≤ 8; omega, ?_, by kernel_rfl, by rw [numsOf_len]; exact of_decide_eq_true rfl⟩
  intro p hp
  simp only [b1L, List.mem_cons, List.not_mem_nil, or_false] at hp
  subst hp
  exact ⟨.inl ⟨rfl, rfl⟩, by show wf64 (-1); unfold wf64; omega⟩
theorem b1_make : makeR b1L = (b1S, 0) := by rw [makeR_of b1_is, strOf_nums]
def c1L : List PartV := [⟨2, 0, ⟨#[97, 98]⟩⟩]
def c1S : ByteArray := ⟨#[2, 97, 98, 0, 1]⟩
theorem c1_is : IsKey (numsOf c1S) c1L := by
  refine ⟨by show 1 ≤ 8; omega, ?_, by kernel_rfl, by rw [numsOf_len]; exact of_decide_eq_true rfl⟩
  intro p hp
  simp only [c1L, List.mem_cons, List.not_mem_nil, or_false] at hp
  subst hp
  exact ⟨.inr ⟨rfl, rfl⟩, by show wf64 0; unfold wf64; omega⟩
theorem c1_make : makeR c1L = (c1S, 0) := by rw [makeR_of c1_is, strOf_nums]
def d1L : List PartV := [⟨2, 0, ⟨#[97, 0]⟩⟩]
def d1S : ByteArray := ⟨#[2, 97, 0, 255, 0, 1]⟩
theorem d1_is : IsKey (numsOf d1S) d1L := by
  refine ⟨by show 1 ≤ 8; omega, ?_, by kernel_rfl, by rw [numsOf_len]; exact of_decide_eq_true rfl⟩
  intro p hp
  simp only [d1L, List.mem_cons, List.not_mem_nil, or_false] at hp
  subst hp
  exact ⟨.inr ⟨rfl, rfl⟩, by show wf64 0; unfold wf64; omega⟩
theorem d1_make : makeR d1L = (d1S, 0) := by rw [makeR_of d1_is, strOf_nums]
def xL : List PartV := [⟨2, 0, ⟨#[97]⟩⟩]
def yL : List PartV := [⟨2, 0, ⟨#[97]⟩⟩, ⟨1, 1, ByteArray.empty⟩]
def zL : List PartV := [⟨1, 7, ByteArray.empty⟩]
def badL : List ByteArray := [⟨#[1, 2]⟩, ⟨#[2, 97]⟩, ⟨#[2, 97, 0, 2]⟩, ⟨#[3]⟩, ⟨#[2, 97, 0]⟩]
theorem bad_cut (k : Nat) (hk : k < 5) : cutR (numsOf (badL.getD k ByteArray.empty)) = ([], 60) ∧ (badL.getD k ByteArray.empty).size ≤ 4 := by
  have key : ∀ (s : ByteArray), 0 < s.size → s.size ≤ 4 → cut1 (numsOf s) = none → cutR (numsOf s) = ([], 60) := fun s h0 h4 hc =>
    OnCut.no (x := numsOf s) (l := []) (rest := numsOf s) ⟨by simp, by simp, by simp [keyN], numsOf_lt s, by rw [numsOf_len]; omega⟩ (fun e => by have := congrArg List.length e; rw [numsOf_len] at this; exact absurd this (show ¬ s.size = 0 by omega)) (.inl hc)
  match k, hk with
  | 0, _ => exact ⟨key _ (of_decide_eq_true rfl) (of_decide_eq_true rfl) (by kernel_rfl), of_decide_eq_true rfl⟩
  | 1, _ => exact ⟨key _ (of_decide_eq_true rfl) (of_decide_eq_true rfl) (by kernel_rfl), of_decide_eq_true rfl⟩
  | 2, _ => exact ⟨key _ (of_decide_eq_true rfl) (of_decide_eq_true rfl) (by kernel_rfl), of_decide_eq_true rfl⟩
  | 3, _ => exact ⟨key _ (of_decide_eq_true rfl) (of_decide_eq_true rfl) (by kernel_rfl), of_decide_eq_true rfl⟩
  | 4, _ => exact ⟨key _ (of_decide_eq_true rfl) (of_decide_eq_true rfl) (by kernel_rfl), of_decide_eq_true rfl⟩
theorem bad_cells (w : World) (k : Nat) (hk : k < 5) : (w.alloc (.cells #[.string ⟨#[1, 2]⟩, .string ⟨#[2, 97]⟩, .string ⟨#[2, 97, 0, 2]⟩, .string ⟨#[3]⟩, .string ⟨#[2, 97, 0]⟩] 9)).cell? ⟨w.heap.size, k, none⟩ = some (.string (badL.getD k ByteArray.empty)) := by
  rw [Lib.cell_of_heap (heap_alloc_new w _)]
  match k, hk with
  | 0, _ => rfl
  | 1, _ => rfl
  | 2, _ => rfl
  | 3, _ => rfl
  | 4, _ => rfl
def nineL : List PartV := List.replicate 9 zeroP
theorem nine_cells : (madeCells (Value.agg #[.int .u8 0, .int .i64 0, .string ByteArray.empty]).cells (9 * 3)).toList = cellsP nineL := by kernel_rfl
theorem nine_wf : (∀ p ∈ nineL, WfP p) ∧ ∀ p ∈ nineL, p.text.size ≤ 2000000 := by
  have h : ∀ p ∈ nineL, p = zeroP := fun p hp => (List.mem_replicate.1 hp).2
  refine ⟨fun p hp => ?_, fun p hp => ?_⟩
  · rw [h p hp]; exact ⟨⟨by show (0 : Int) ≤ 0; omega, by show (0 : Int) ≤ 255; omega⟩, by show wf64 0; unfold wf64; omega, by show 0 ≤ maxLen; omega⟩
  · rw [h p hp]; show 0 ≤ 2000000; omega
def oddL : List PartV := [⟨1, 0, ⟨#[120]⟩⟩]
theorem odd_wf : (∀ p ∈ oddL, WfP p) ∧ ∀ p ∈ oddL, p.text.size ≤ 2000000 := by
  refine ⟨fun p hp => ?_, fun p hp => ?_⟩
  · simp only [oddL, List.mem_cons, List.not_mem_nil, or_false] at hp
    subst hp
    exact ⟨⟨by show (0 : Int) ≤ 1; omega, by show (1 : Int) ≤ 255; omega⟩, by show wf64 0; unfold wf64; omega, by show 1 ≤ maxLen; unfold maxLen; omega⟩
  · simp only [oddL, List.mem_cons, List.not_mem_nil, or_false] at hp
    subst hp
    show 1 ≤ 2000000; omega
theorem odd_make : makeR oddL = (ByteArray.empty, 8) := by
  refine makeR_bad (by show ¬ 8 < 1; omega) ⟨_, List.mem_cons_self, ?_⟩
  rintro (⟨_, h⟩ | ⟨h, _⟩)
  · have := congrArg ByteArray.size h
    exact absurd this (by decide)
  · exact absurd h (by decide)
def noughts : ByteArray := strOf (List.replicate 200 0)
theorem noughts_nums : numsOf noughts = List.replicate 200 0 := nums_strOf (fun c hc => by have := (List.mem_replicate.1 hc).2; omega)
theorem noughts_size : noughts.size = 200 := by unfold noughts; rw [strOf_size, List.length_replicate]
theorem long_wf : (∀ p ∈ [(⟨2, 0, noughts⟩ : PartV)], WfP p) ∧ ∀ p ∈ [(⟨2, 0, noughts⟩ : PartV)], p.text.size ≤ 2000000 := by
  refine ⟨fun p hp => ?_, fun p hp => ?_⟩
  · simp only [List.mem_cons, List.not_mem_nil, or_false] at hp
    subst hp
    exact ⟨⟨by show (0 : Int) ≤ 2; omega, by show (2 : Int) ≤ 255; omega⟩, by show wf64 0; unfold wf64; omega, by show noughts.size ≤ maxLen; rw [noughts_size]; unfold maxLen; omega⟩
  · simp only [List.mem_cons, List.not_mem_nil, or_false] at hp
    subst hp
    exact Nat.le_trans (Nat.le_of_eq noughts_size) (by omega)
theorem long_of (t : ByteArray) (h1 : t.size = 200) (h2 : numsOf t = List.replicate 200 0) : makeR [(⟨2, 0, t⟩ : PartV)] = (ByteArray.empty, 60) := by
  refine makeR_long (by show ¬ 8 < 1; omega) ?_ ?_
  · intro p hp
    simp only [List.mem_cons, List.not_mem_nil, or_false] at hp
    subst hp
    exact .inr ⟨rfl, rfl⟩
  · rw [keyN_one, bytesP_len, if_neg (show ¬ (2 : Int) = 1 by omega)]
    show 256 < t.size + (numsOf t).count 0 + 3
    rw [h1, h2, List.count_replicate_self]
    omega
theorem long_make : makeR [(⟨2, 0, noughts⟩ : PartV)] = (ByteArray.empty, 60) := long_of noughts noughts_size noughts_nums
set_option maxRecDepth 8000 in
set_option maxHeartbeats 16000000 in
theorem walk (w : World) : Calls Try.prog 3 #[] w fun e w' => e = .returned (.bool true) ∧ Below w.heap.size w w' := by
  obtain ⟨i0, hi, hz0, hz1, hz2⟩ := info_parts' info_part
  obtain ⟨j0, hj, hy0, hy1, hy2⟩ := info_parts info5
  go_enter Try.func3, Try.ntmps3
  go_wp2_with fail
  refine (num_agg 5 _).mono ?_
  rintro e w1 ⟨rfl, hb1⟩
  have HB1 : Hid (Below w.heap.size w w1) := hb1
  have HC1 : Hid _ := hb1
  clear hb1
  have HP1 : Hid (PtsIn (w1.alloc (.cells #[.int .u8 1, .int .i64 5, .string ByteArray.empty] 26)) (some ⟨w1.heap.size, 0, none⟩) a1L) := row_parts w1 a1L
  have HR1 : Hid (Below w.heap.size w (w1.alloc (.cells #[.int .u8 1, .int .i64 5, .string ByteArray.empty] 26))) := below_bt HB1.out (below_alloc _ _)
  go_wp2_with fail
  refine (Make_any (some ⟨w1.heap.size, 0, none⟩) 1 1 a1L _ ⟨rfl, HP1.out, (isKey_wf a1_is).1, (isKey_wf a1_is).2⟩ (by omega) _ a1_make).mono ?_
  rintro e w2 ⟨rfl, hb2⟩
  rw [show makeE (a1S, 0) = .tuple #[.string ⟨#[1, 128, 0, 0, 0, 0, 0, 0, 5]⟩, .int .i64 0] from rfl]
  have HB2 : Hid (Below w.heap.size w w2) := below_bt HR1.out hb2
  have HC2 : Hid _ := hb2
  clear hb2
  go_wp2_with fail
  refine (num_agg (-1) _).mono ?_
  rintro e w3 ⟨rfl, hb3⟩
  have HB3 : Hid (Below w.heap.size w w3) := below_bt HB2.out hb3
  have HC3 : Hid _ := hb3
  clear hb3
  have HP3 : Hid (PtsIn (w3.alloc (.cells #[.int .u8 1, .int .i64 (-1), .string ByteArray.empty] 26)) (some ⟨w3.heap.size, 0, none⟩) b1L) := row_parts w3 b1L
  have HR3 : Hid (Below w.heap.size w (w3.alloc (.cells #[.int .u8 1, .int .i64 (-1), .string ByteArray.empty] 26))) := below_bt HB3.out (below_alloc _ _)
  go_wp2_with fail
  refine (Make_any (some ⟨w3.heap.size, 0, none⟩) 1 1 b1L _ ⟨rfl, HP3.out, (isKey_wf b1_is).1, (isKey_wf b1_is).2⟩ (by omega) _ b1_make).mono ?_
  rintro e w4 ⟨rfl, hb4⟩
  rw [show makeE (b1S, 0) = .tuple #[.string ⟨#[1, 127, 255, 255, 255, 255, 255, 255, 255]⟩, .int .i64 0] from rfl]
  have HB4 : Hid (Below w.heap.size w w4) := below_bt HR3.out hb4
  have HC4 : Hid _ := hb4
  clear hb4
  go_wp2_with fail
  refine (word_agg ⟨#[97, 98]⟩ _).mono ?_
  rintro e w5 ⟨rfl, hb5⟩
  have HB5 : Hid (Below w.heap.size w w5) := below_bt HB4.out hb5
  have HC5 : Hid _ := hb5
  clear hb5
  have HP5 : Hid (PtsIn (w5.alloc (.cells #[.int .u8 2, .int .i64 0, .string ⟨#[97, 98]⟩] 26)) (some ⟨w5.heap.size, 0, none⟩) c1L) := row_parts w5 c1L
  have HR5 : Hid (Below w.heap.size w (w5.alloc (.cells #[.int .u8 2, .int .i64 0, .string ⟨#[97, 98]⟩] 26))) := below_bt HB5.out (below_alloc _ _)
  go_wp2_with fail
  refine (Make_any (some ⟨w5.heap.size, 0, none⟩) 1 1 c1L _ ⟨rfl, HP5.out, (isKey_wf c1_is).1, (isKey_wf c1_is).2⟩ (by omega) _ c1_make).mono ?_
  rintro e w6 ⟨rfl, hb6⟩
  rw [show makeE (c1S, 0) = .tuple #[.string ⟨#[2, 97, 98, 0, 1]⟩, .int .i64 0] from rfl]
  have HB6 : Hid (Below w.heap.size w w6) := below_bt HR5.out hb6
  have HC6 : Hid _ := hb6
  clear hb6
  go_wp2_with fail
  refine (word_agg ⟨#[97, 0]⟩ _).mono ?_
  rintro e w7 ⟨rfl, hb7⟩
  have HB7 : Hid (Below w.heap.size w w7) := below_bt HB6.out hb7
  have HC7 : Hid _ := hb7
  clear hb7
  have HP7 : Hid (PtsIn (w7.alloc (.cells #[.int .u8 2, .int .i64 0, .string ⟨#[97, 0]⟩] 26)) (some ⟨w7.heap.size, 0, none⟩) d1L) := row_parts w7 d1L
  have HR7 : Hid (Below w.heap.size w (w7.alloc (.cells #[.int .u8 2, .int .i64 0, .string ⟨#[97, 0]⟩] 26))) := below_bt HB7.out (below_alloc _ _)
  go_wp2_with fail
  refine (Make_any (some ⟨w7.heap.size, 0, none⟩) 1 1 d1L _ ⟨rfl, HP7.out, (isKey_wf d1_is).1, (isKey_wf d1_is).2⟩ (by omega) _ d1_make).mono ?_
  rintro e w8 ⟨rfl, hb8⟩
  rw [show makeE (d1S, 0) = .tuple #[.string ⟨#[2, 97, 0, 255, 0, 1]⟩, .int .i64 0] from rfl]
  have HB8 : Hid (Below w.heap.size w w8) := below_bt HR7.out hb8
  have HC8 : Hid _ := hb8
  clear hb8
  go_wp2_with fail
  refine (After_any ⟨#[97, 255]⟩ _ (by show (2 : Int) ≤ 10000; omega) ⟨#[98]⟩ true (by kernel_rfl)).mono ?_
  rintro e w9 ⟨rfl, hb9⟩
  have HB9 : Hid (Below w.heap.size w w9) := below_bt HB8.out hb9
  have HC9 : Hid _ := hb9
  clear hb9
  go_wp2_with fail
  refine (After_any ⟨#[255]⟩ _ (by show (1 : Int) ≤ 10000; omega) ByteArray.empty false (by kernel_rfl)).mono ?_
  rintro e w10 ⟨rfl, hb10⟩
  have HB10 : Hid (Below w.heap.size w w10) := below_bt HB9.out hb10
  have HC10 : Hid _ := hb10
  clear hb10
  go_wp2_with fail
  refine (word_agg ⟨#[97]⟩ _).mono ?_
  rintro e w11 ⟨rfl, hb11⟩
  have HB11 : Hid (Below w.heap.size w w11) := below_bt HB10.out hb11
  have HC11 : Hid _ := hb11
  clear hb11
  have HP11 : Hid (PtsIn (w11.alloc (.cells #[.int .u8 2, .int .i64 0, .string ⟨#[97]⟩] 26)) (some ⟨w11.heap.size, 0, none⟩) xL) := row_parts w11 xL
  have HR11 : Hid (Below w.heap.size w (w11.alloc (.cells #[.int .u8 2, .int .i64 0, .string ⟨#[97]⟩] 26))) := below_bt HB11.out (below_alloc _ _)
  go_wp2_with fail
  refine (word_agg ⟨#[97]⟩ _).mono ?_
  rintro e w12 ⟨rfl, hb12⟩
  have HB12 : Hid (Below w.heap.size w w12) := below_bt HR11.out hb12
  have HC12 : Hid _ := hb12
  clear hb12
  go_wp2_with fail
  refine (num_agg 1 _).mono ?_
  rintro e w13 ⟨rfl, hb13⟩
  have HB13 : Hid (Below w.heap.size w w13) := below_bt HB12.out hb13
  have HC13 : Hid _ := hb13
  clear hb13
  have HP13 : Hid (PtsIn (w13.alloc (.cells #[.int .u8 2, .int .i64 0, .string ⟨#[97]⟩, .int .u8 1, .int .i64 1, .string ByteArray.empty] 26)) (some ⟨w13.heap.size, 0, none⟩) yL) := row_parts w13 yL
  have HR13 : Hid (Below w.heap.size w (w13.alloc (.cells #[.int .u8 2, .int .i64 0, .string ⟨#[97]⟩, .int .u8 1, .int .i64 1, .string ByteArray.empty] 26))) := below_bt HB13.out (below_alloc _ _)
  go_wp2_with fail
  refine (less_any (some ⟨w11.heap.size, 0, none⟩) (some ⟨w13.heap.size, 0, none⟩) 1 2 1 2 xL yL _ rfl rfl (((HP11.out.below HC12.out).below HC13.out).below (below_alloc _ _)) HP13.out (by omega) (by omega) true (by kernel_rfl)).mono ?_
  rintro e w14 ⟨rfl, hb14⟩
  have HB14 : Hid (Below w.heap.size w w14) := below_bt HR13.out hb14
  have HC14 : Hid _ := hb14
  clear hb14
  go_wp2_with fail
  refine (num_agg 7 _).mono ?_
  rintro e w15 ⟨rfl, hb15⟩
  have HB15 : Hid (Below w.heap.size w w15) := below_bt HB14.out hb15
  have HC15 : Hid _ := hb15
  clear hb15
  have HP15 : Hid (PtsIn (w15.alloc (.cells #[.int .u8 1, .int .i64 7, .string ByteArray.empty] 26)) (some ⟨w15.heap.size, 0, none⟩) zL) := row_parts w15 zL
  have HR15 : Hid (Below w.heap.size w (w15.alloc (.cells #[.int .u8 1, .int .i64 7, .string ByteArray.empty] 26))) := below_bt HB15.out (below_alloc _ _)
  go_wp2_with fail
  refine (word_agg ⟨#[97]⟩ _).mono ?_
  rintro e w16 ⟨rfl, hb16⟩
  have HB16 : Hid (Below w.heap.size w w16) := below_bt HR15.out hb16
  have HC16 : Hid _ := hb16
  clear hb16
  have HP16 : Hid (PtsIn (w16.alloc (.cells #[.int .u8 2, .int .i64 0, .string ⟨#[97]⟩] 26)) (some ⟨w16.heap.size, 0, none⟩) xL) := row_parts w16 xL
  have HR16 : Hid (Below w.heap.size w (w16.alloc (.cells #[.int .u8 2, .int .i64 0, .string ⟨#[97]⟩] 26))) := below_bt HB16.out (below_alloc _ _)
  go_wp2_with fail
  refine (less_any (some ⟨w15.heap.size, 0, none⟩) (some ⟨w16.heap.size, 0, none⟩) 1 1 1 1 zL xL _ rfl rfl ((HP15.out.below HC16.out).below (below_alloc _ _)) HP16.out (by omega) (by omega) true (by kernel_rfl)).mono ?_
  rintro e w17 ⟨rfl, hb17⟩
  have HB17 : Hid (Below w.heap.size w w17) := below_bt HR16.out hb17
  have HC17 : Hid _ := hb17
  clear hb17
  have HRB : Hid (Below w.heap.size w (w17.alloc (.cells #[.string ⟨#[1, 2]⟩, .string ⟨#[2, 97]⟩, .string ⟨#[2, 97, 0, 2]⟩, .string ⟨#[3]⟩, .string ⟨#[2, 97, 0]⟩] 9))) := below_bt HB17.out (below_alloc _ _)
  have HCB : Hid (∀ k, k < 5 → (w17.alloc (.cells #[.string ⟨#[1, 2]⟩, .string ⟨#[2, 97]⟩, .string ⟨#[2, 97, 0, 2]⟩, .string ⟨#[3]⟩, .string ⟨#[2, 97, 0]⟩] 9)).cell? ⟨w17.heap.size, k, none⟩ = some (.string (badL.getD k ByteArray.empty))) := fun k hk => bad_cells w17 k hk
  go_wp2
  go_loopw [16] (fun i wr => ∃ k : Nat, k ≤ 5 ∧ i = .int .i64 k ∧ Below w.heap.size w wr ∧ Hid (∀ k, k < 5 → wr.cell? ⟨w17.heap.size, k, none⟩ = some (.string (badL.getD k ByteArray.empty)))) (fun i _ => 5 - (intOf i).toNat)
  case atStart => exact ⟨0, by omega, rfl, HRB.out, HCB⟩
  case round =>
    clear HRB HCB
    obtain ⟨k, hk, rfl, hbel, hcl⟩ := hrel
    have HBE : Hid (Below w.heap.size w wr) := hbel
    clear hbel
    by_cases hk5 : k < 5
    · have hkI : (k : Int) < 5 := by omega
      have HK : Hid (k < 5) := hk5
      have cx := hcl.out k hk5
      obtain ⟨bs, hbs⟩ : ∃ bs, badL.getD k ByteArray.empty = bs := ⟨_, rfl⟩
      have HCU := bad_cut k hk5
      rw [hbs] at HCU cx
      have HCC : Hid (cutR (numsOf bs) = ([], 60) ∧ bs.size ≤ 4) := HCU
      clear hk5 HCU hbs
      go_wp2_with fail
      refine (Cut_any bs _ (by have := HCC.out.2; omega) [] 60 HCC.out.1).mono ?_
      rintro e wc ⟨v, rfl, ho, hbc⟩
      obtain ⟨qv, mv, rfl, _, _, _⟩ := ho.form
      have HBC : Hid (Below w.heap.size w wc) := below_bt HBE.out hbc
      have HCL : Hid (∀ k, k < 5 → wc.cell? ⟨w17.heap.size, k, none⟩ = some (.string (badL.getD k ByteArray.empty))) := fun k hk => (hbc.cell (World.block_lt_of_cell? _ _ (hcl.out k hk))).trans (hcl.out k hk)
      clear ho hbc hcl cx
      go_wp2
      go_roundw
      case rel => exact ⟨k + 1, by have := HK.out; omega, by go_num, HBC.out, HCL⟩
      case measure => have := HK.out; simp [intOf]; omega
    · obtain rfl : k = 5 := by omega
      clear hk5 hcl
      go_wp2_with (at_make; refine wpList_make_full _ rfl _ _ 28 rfl wr.heap.size 26 i0 _ 3 Try.underlying28 hi hz0 hz1 .i64 .i64 _ _ 9 rfl rfl rfl rfl (by rw [hz2]; decide) (by decide) (Nat.le_refl _) ?_; intro wm hom hgm; have HPM : Hid (PtsIn wm (some ⟨wr.heap.size, 0, none⟩) nineL) := PtOwn.pts (n := 9) (m := 9) (base := wr.heap.size) (by unfold PtOwn; rw [← nine_cells]; exact hom); have HBM : Hid (Below w.heap.size w wm) := HBE.out.grown hgm HBE.out.size (fun k hk => by cases hk); clear hom hgm)
      refine (Make_any (some ⟨wr.heap.size, 0, none⟩) 9 9 nineL _ ⟨rfl, HPM.out, nine_wf.1, nine_wf.2⟩ (by omega) _ (makeR_many (show 8 < 9 by omega))).mono ?_
      rintro e wa ⟨rfl, hba⟩
      rw [show makeE (ByteArray.empty, 4) = .tuple #[.string ByteArray.empty, .int .i64 4] from rfl]
      have HBA : Hid (Below w.heap.size w wa) := below_bt HBM.out hba
      have HPB : Hid (PtsIn (wa.alloc (.cells #[.int .u8 1, .int .i64 0, .string ⟨#[120]⟩] 26)) (some ⟨wa.heap.size, 0, none⟩) oddL) := row_parts wa oddL
      have HRA : Hid (Below w.heap.size w (wa.alloc (.cells #[.int .u8 1, .int .i64 0, .string ⟨#[120]⟩] 26))) := below_bt HBA.out (below_alloc _ _)
      clear hba
      go_wp2_with fail
      refine (Make_any (some ⟨wa.heap.size, 0, none⟩) 1 1 oddL _ ⟨rfl, HPB.out, odd_wf.1, odd_wf.2⟩ (by omega) _ odd_make).mono ?_
      rintro e wb ⟨rfl, hbb⟩
      rw [show makeE (ByteArray.empty, 8) = .tuple #[.string ByteArray.empty, .int .i64 8] from rfl]
      have HBB : Hid (Below w.heap.size w wb) := below_bt HRA.out hbb
      clear hbb
      go_wp2_with (at_make; refine wpList_make_full _ rfl _ _ 36 rfl wb.heap.size 5 j0 (.int .u8 0) 1 Try.underlying36 hj hy0 hy1 .i64 .i64 _ _ 200 rfl rfl rfl rfl (by rw [hy2]; decide) (by decide) (Nat.le_refl _) ?_; intro wn hon hgn; have HBN : Hid (Below w.heap.size w wn) := HBB.out.grown hgn HBB.out.size (fun k hk => by cases hk); have cvn : (convert 36 9 (.slice (some ⟨wb.heap.size, 0, none⟩) 200 200)).run Try.prog wn = .ok (.string noughts) wn := conv_at (own_at (xs := List.replicate 200 0) (n := 200) (by rw [← zeros_made]; exact hon) (by rw [List.length_replicate]) (fun c hc => by have := (List.mem_replicate.1 hc).2; omega)) (by rw [List.length_replicate]); clear hon hgn)
      refine (word_agg noughts _).mono ?_
      rintro e wd ⟨rfl, hbd⟩
      have HBD : Hid (Below w.heap.size w wd) := below_bt HBN.out hbd
      have HPD : Hid (PtsIn (wd.alloc (.cells #[.int .u8 2, .int .i64 0, .string noughts] 26)) (some ⟨wd.heap.size, 0, none⟩) [⟨2, 0, noughts⟩]) := row_parts wd [⟨2, 0, noughts⟩]
      have HRD : Hid (Below w.heap.size w (wd.alloc (.cells #[.int .u8 2, .int .i64 0, .string noughts] 26))) := below_bt HBD.out (below_alloc _ _)
      clear hbd
      go_wp2_with fail
      refine (Make_any (some ⟨wd.heap.size, 0, none⟩) 1 1 [⟨2, 0, noughts⟩] _ ⟨rfl, HPD.out, long_wf.1, long_wf.2⟩ (by omega) _ long_make).mono ?_
      rintro e we ⟨rfl, hbe⟩
      rw [show makeE (ByteArray.empty, 60) = .tuple #[.string ByteArray.empty, .int .i64 60] from rfl]
      have HBF : Hid (Below w.heap.size w we) := below_bt HRD.out hbe
      clear hbe
      go_wp2_with fail
      refine (alive_any _).mono ?_
      rintro e wg ⟨rfl, hbg⟩
      have HBG : Hid (Below w.heap.size w wg) := below_bt HBF.out hbg
      clear hbg
      go_wp2
      go_ret
      exact ⟨rfl, HBG.out⟩

/-! ### THE ROW's STEP -/
set_option maxRecDepth 100000 in
theorem lifted (os : Os) (started : os.Started) (H : Type) (enc : TypeId × Value → H) :
    ReturnsInHanded {} Try.checked os 3 .any (Rows.keyNamesSpec.pre6 enc Try.prog Try.f3 Rows.keyNamesRow.domain false) (Rows.keyNamesSpec.post enc Try.prog Try.f3 false true false false) := by
  refine returnsInHanded_of_change (C := Try.checked) own started (by kernel_rfl) Try.func3
    (ChangeSpec.witness6 (enc := enc) (C := Try.checked) false ⟨#[], #[], []⟩ 8 (by kernel_rfl) (by kernel_rfl) (by kernel_rfl) (by kernel_rfl)) ?_
  intro W base args ds gs before hval0 hW hcnd _
  have hval : ∀ (j : Nat) t v, Try.f3.params[j]? = some t → args[j]? = some v → Value.okWide Try.prog W .any base t v := hval0
  have hW' := hW
  obtain ⟨p, q, hA0, hV, rfl, hfz, hnd⟩ := hW
  have hA : DataW.TrodAll enc Try.prog W 0 (fun _ => true) true Try.f3.params.toList args.toList ds p := hA0
  rw [Try.params3] at hA hval
  obtain ⟨hargs, rfl, rfl⟩ := trodAll_nil hA
  obtain rfl : args = #[] := by cases args; simp_all
  obtain ⟨rfl, rfl⟩ := trodVars_none hV
  clear hA0 hval0
  refine (walk  W ).mono fun e W' ⟨he, bel⟩ => ?_
  subst he
  exact ⟨_, rfl, _, _, _, [], _, [], hW', trodAll_mk1 (shut_bool Try.underlying4 _), trodAll_mk0, rfl, bel.frame _, fun h => by cases h⟩

theorem over : Rows.keyNamesRow.holds Try.pinned (OpenSpec.ofChange Rows.keyNamesSpec) :=
  OpenClaim.holds_of_wide 3 Try.f3 rfl rfl rfl rfl rfl rfl rfl ⟨rfl, rfl, rfl, rfl, rfl⟩ rfl rfl rfl rfl rfl (by kernel_rfl) Try.func3 (by kernel_rfl)
    (of_decide_eq_true (by kernel_rfl)) (by unfold Func.isWrapper; first | (rw [if_pos (by decide +kernel)]; kernel_rfl) | (rw [if_neg (by decide +kernel)]; exact ⟨rfl, rfl⟩))
    (fun os started H enc _ => lifted os started H enc)

theorem proved : Rows.KeyNamesSaid := over
end Go.Proofs.Ythebnealkekdmaa.keyNames
namespace Go.Proofs.Ythebnealkekdmaa
theorem keyNames_holds : Rows.KeyNamesSaid := keyNames.proved
#print axioms keyNames_holds
end Go.Proofs.Ythebnealkekdmaa
