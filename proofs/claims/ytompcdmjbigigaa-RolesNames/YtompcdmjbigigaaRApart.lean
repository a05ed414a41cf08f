/-
  Apart: the program's, with slices.Contains over acts.
-/
import Derived.Test.YtompcdmjbigigaaRName
import Derived.Laws.StructEq
namespace Go.Proofs.Ytompcdmjbigigaa
open Go.RowKit Go.WideShapes Go.Joins

def isAct (u r : ByteArray) (t : Pr) : Bool := decide (u = t.1) && decide (r = t.2)
def actIn (T : List Pr) (u r : ByteArray) : Bool := T.any (isAct u r)
def hitB (T : List Pr) (u r : ByteArray) (p : Pr) : Bool := (decide (p.1 = r) && actIn T u p.2) || (decide (p.2 = r) && actIn T u p.1)
def apB (A T : List Pr) (u r : ByteArray) : Bool := A.any (hitB T u r)
def apE (A T : List Pr) (r : ByteArray) : Nat := if 32 < A.length ∨ 1024 < T.length then 4 else if nmOk r then 0 else 5
def apV (A T : List Pr) (u r : ByteArray) : Bool := decide (apE A T r = 0) && apB A T u r
theorem any_yes {l : List Pr} {p : Pr → Bool} {i : Nat} (hi : i < l.length) (h : p (l.getD i zP) = true) : l.any p = true := by
  rw [List.any_eq_true]
  refine ⟨_, ?_, h⟩
  rw [List.getD_eq_getElem?_getD, List.getElem?_eq_getElem hi]
  exact List.getElem_mem hi
theorem any_no {l : List Pr} {p : Pr → Bool} (h : ∀ i, i < l.length → p (l.getD i zP) = false) : l.any p = false := by
  rw [List.any_eq_false]
  intro x hx
  obtain ⟨i, hi, rfl⟩ := List.getElem_of_mem hx
  have := h i hi
  rw [List.getD_eq_getElem?_getD, List.getElem?_eq_getElem hi] at this
  simpa using this
theorem eql_act (a b c d : ByteArray) (w : World) : Sem.run Try.prog (binOp .eql 31 (.agg #[.string a, .string b]) (.agg #[.string c, .string d])) w = .ok (.bool (isAct a b (c, d))) w := by
  have u3 := Try.underlying9
  have a3 := Try.isAgg9
  have z3 := Try.sizeOf9
  have hS : Try.prog.underlying 31 = some (.struct (Try.prog.fieldsOf 31)) := by kernel_rfl
  have hp : Try.prog.stoodInHeld 31 = false := by kernel_rfl
  rw [run_eql_struct, show (10000 : Nat) = 9999 + 1 from rfl, run_equalIn_agg w 9999 31 _ _ hS hp]
  simp only [Program.fieldsOf, Try.underlying31]
  go_simp
  have e1 : a.toList = c.toList ↔ a = c := by rw [ByteArray.toList_eq, ByteArray.toList_eq]; exact ⟨ba_ext, fun e => by rw [e]⟩
  have e2 : b.toList = d.toList ↔ b = d := by rw [ByteArray.toList_eq, ByteArray.toList_eq]; exact ⟨ba_ext, fun e => by rw [e]⟩
  unfold isAct
  by_cases h1 : a = c <;> by_cases h2 : b = d <;> simp [e1, e2, h1, h2]
set_option maxHeartbeats 2000000 in
set_option maxRecDepth 8000 in
theorem indexA_any (q : Option Addr) (c : Nat) (T : List Pr) (u r : ByteArray) (w : World) (h : PrsIn w q T c) (hn : T.length ≤ 1024) :
    Calls Try.prog 46 #[.slice q T.length c, .agg #[.string u, .string r]] w fun e w' => ∃ z : Int, e = .returned (.int .i64 z) ∧ (decide (0 ≤ z) = actIn T u r) ∧ Below w.heap.size w w' := by
  have HH : Hid (PrsIn w q T c) := h
  have EQ := eql_act
  obtain ⟨n, hN⟩ : ∃ n, T.length = n := ⟨_, rfl⟩
  rw [hN] at hn ⊢
  have HN : Hid (T.length = n ∧ n ≤ 1024) := ⟨hN, hn⟩
  have hnI : (n : Int) ≤ 1024 := by omega
  clear h hN hn
  go_enter Try.func46, Try.ntmps46
  go_wp2_with fail
  have b1 := below_new w (.cells #[.string u, .string r] 31)
  have n1 := _root_.Go.heap_alloc_new w (.cells #[.string u, .string r] 31)
  generalize w.alloc (.cells #[.string u, .string r] 31) = W1 at b1 n1 ⊢
  go_loopw [8] (fun t wr => ∃ k : Nat, k ≤ n ∧ t = .int .i64 (k : Int) ∧ (∀ j, j < k → isAct u r (T.getD j zP) = false) ∧ Below w.heap.size w wr ∧ wr.heap[w.heap.size]? = some (.cells #[.string u, .string r] 31 (0, 0))) (fun t _ => n - (intOf t).toNat)
  case atStart => exact ⟨0, Nat.zero_le _, rfl, fun j hj => absurd hj (Nat.not_lt_zero _), b1, n1⟩
  case round =>
    clear b1 n1
    obtain ⟨k, hk, rfl, hz, hb, hx⟩ := hrel
    have HZ : Hid (∀ j, j < k → isAct u r (T.getD j zP) = false) := hz
    have HB : Hid (Below w.heap.size w wr) := hb
    have HX : Hid (wr.heap[w.heap.size]? = some (.cells #[.string u, .string r] 31 (0, 0))) := hx
    clear hz
    by_cases hlt : k < n
    · have hkI : (k : Int) < (n : Int) := by omega
      have hk0 : (0 : Int) ≤ (k : Int) := by omega
      have HK : Hid (k < n) := hlt
      have hen := HH.out.below hb
      obtain ⟨fb, fo, rfl⟩ := hen.addr (by have := HN.out.1; omega)
      obtain ⟨z0, z1⟩ := hen.at (i := k) (by have := HN.out.1; omega)
      have x0 : wr.cell? ⟨w.heap.size, 0, none⟩ = some (.string u) := Lib.cell_of_heap hx 0
      have x1 : wr.cell? ⟨w.heap.size, 1, none⟩ = some (.string r) := Lib.cell_of_heap hx 1
      obtain ⟨p, hp⟩ : ∃ p, T.getD k zP = p := ⟨_, rfl⟩
      rw [hp] at z0 z1
      obtain ⟨p1, p2⟩ := p
      simp only at z0 z1
      obtain ⟨b, hbb⟩ : ∃ b, isAct u r (p1, p2) = b := ⟨_, rfl⟩
      have HP : Hid (isAct u r (T.getD k zP) = b) := by show _ = _; rw [hp, hbb]
      have e1 := fun w' => EQ u r p1 p2 w'
      rw [hbb] at e1
      clear EQ hen hb hx hp hbb hk hlt
      cases b with
      | true =>
        go_wp2_with fail
        go_quiet (fail)
        go_wp2_with fail
        go_ret
        refine ⟨_, rfl, ?_, below_dN HB.out _⟩
        rw [decide_eq_true hk0]
        exact (any_yes (by have := HN.out.1; have := HK.out; omega) HP.out).symm
      | false =>
        go_wp2_with fail
        go_quiet (fail)
        go_wp2_with fail
        go_roundw
        case rel =>
          refine ⟨k + 1, HK.out, by go_num, fun j hj => ?_, below_dN HB.out _, HX.out⟩
          rcases Nat.lt_or_ge j k with h1 | h1
          · exact HZ.out j h1
          · obtain rfl : j = k := by omega
            exact HP.out
        case measure => have := HK.out; simp [intOf]; omega
    · obtain rfl : k = n := by omega
      have HE : Hid (actIn T u r = false) := any_no fun i hi => HZ.out i (by have := HN.out.1; omega)
      clear hk hlt hb hx
      go_wp2_with fail
      go_ret
      exact ⟨_, rfl, by rw [HE.out]; rfl, HB.out⟩
set_option maxHeartbeats 2000000 in
set_option maxRecDepth 8000 in
theorem containsA_any (q : Option Addr) (c : Nat) (T : List Pr) (u r : ByteArray) (w : World) (h : PrsIn w q T c) (hn : T.length ≤ 1024) :
    Calls Try.prog 37 #[.slice q T.length c, .agg #[.string u, .string r]] w fun e w' => e = .returned (.bool (actIn T u r)) ∧ Below w.heap.size w w' := by
  have b1 := below_new w (.cells #[.string u, .string r] 31)
  have n1 := _root_.Go.heap_alloc_new w (.cells #[.string u, .string r] 31)
  have IA := fun w1 (hb : Below w.heap.size w w1) => indexA_any q c T u r w1 (h.below hb) hn
  clear h hn
  generalize T.length = n at IA ⊢
  generalize actIn T u r = B at IA ⊢
  go_enter Try.func37, Try.ntmps37
  go_wp2_with fail
  have x0 := Lib.cell_of_heap n1 0
  have x1 := Lib.cell_of_heap n1 1
  simp only [List.getElem?_toArray] at x0 x1
  have I1 := IA _ b1
  have HB1 : Hid _ := b1
  clear IA b1
  generalize w.alloc (.cells #[.string u, .string r] 31) = W1 at I1 HB1 n1 x0 x1 ⊢
  go_wp2_with (first | (go_at_call 46; refine I1.mono ?_; rintro e w2 ⟨z, rfl, hz, hb2⟩) | fail)
  go_ret
  exact ⟨by rw [← hz]; rfl, below_more HB1.out hb2⟩
set_option maxHeartbeats 2000000 in
set_option maxRecDepth 8000 in
theorem actedIn_any (q : Option Addr) (c : Nat) (T : List Pr) (u r : ByteArray) (w : World) (h : PrsIn w q T c) (hn : T.length ≤ 1024) :
    Calls Try.prog 26 #[.slice q T.length c, .string u, .string r] w fun e w' => e = .returned (.bool (actIn T u r)) ∧ Below w.heap.size w w' := by
  have CA := containsA_any q c T u r w h hn
  clear h hn
  generalize T.length = n at CA ⊢
  generalize actIn T u r = B at CA ⊢
  go_enter Try.func26, Try.ntmps26
  go_wp2_with (first | (go_at_call 37; refine CA.mono ?_; rintro e w2 ⟨rfl, hb2⟩) | fail)
  go_ret
  exact ⟨rfl, hb2⟩
theorem apE_many {A T : List Pr} (r : ByteArray) (h : 32 < A.length ∨ 1024 < T.length) : apE A T r = 4 := by unfold apE; rw [if_pos h]
theorem apE_few {A T : List Pr} (r : ByteArray) (h : ¬ (32 < A.length ∨ 1024 < T.length)) : apE A T r = if nmOk r then 0 else 5 := by unfold apE; rw [if_neg h]
end Go.Proofs.Ytompcdmjbigigaa
