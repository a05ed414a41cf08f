/-
  The program's tokens: taken words, texts, numbers, words.
-/
import Derived.Test.YtkcmidhpbaepoaaDoorGTok
namespace Go.Proofs.YtkcmidhpbaepoaaDoor.G
open Go.RowKit Go.WideShapes Go.Joins

def kAnd : ByteArray := ⟨#[97, 110, 100]⟩
def kOr : ByteArray := ⟨#[111, 114]⟩
def kNot : ByteArray := ⟨#[110, 111, 116]⟩
def kTrue : ByteArray := ⟨#[116, 114, 117, 101]⟩
def kFalse : ByteArray := ⟨#[102, 97, 108, 115, 101]⟩
def kOpen : ByteArray := ⟨#[111, 112, 101, 110]⟩
def kDone : ByteArray := ⟨#[100, 111, 110, 101]⟩
theorem nums_ne {s t : ByteArray} {l : List Nat} (h : ¬ s = t) (ht : numsOf t = l) : ¬ numsOf s = l := fun e => h (numsOf_inj (e.trans ht.symm))
theorem lit_yes {s K : ByteArray} {l : List UInt8} (hK : K.data.toList = l) (h : s = K) : (s.toList == l) = true := by
  have := (Lib.bytes_beq_iff s K).2 h
  rw [Lib.toList_data K, hK] at this
  exact this
theorem lit_no {s K : ByteArray} {l : List UInt8} (hK : K.data.toList = l) (h : ¬ s = K) : (s.toList == l) = false := by
  have := (Lib.bytes_beq_false_iff s K).2 h
  rw [Lib.toList_data K, hK] at this
  exact this
theorem isTaken_any (s : ByteArray) (w : World) : Calls Tryd.prog 38 #[.string s] w fun e w' => e = .returned (.bool (taken (numsOf s))) ∧ w' = w := by
  by_cases e0 : s = kAnd
  · rw [show taken (numsOf s) = true by rw [e0]; decide]
    have n0 : (s.toList == [97, 110, 100]) = true := lit_yes rfl e0
    clear e0
    go_enter Tryd.func38, Tryd.ntmps38
    go_wp2_with fail
    go_ret
    exact ⟨rfl, rfl⟩
  have n0 : (s.toList == [97, 110, 100]) = false := lit_no rfl e0
  by_cases e1 : s = kOr
  · rw [show taken (numsOf s) = true by rw [e1]; decide]
    have n1 : (s.toList == [111, 114]) = true := lit_yes rfl e1
    clear e1
    go_enter Tryd.func38, Tryd.ntmps38
    go_wp2_with fail
    go_ret
    exact ⟨rfl, rfl⟩
  have n1 : (s.toList == [111, 114]) = false := lit_no rfl e1
  by_cases e2 : s = kNot
  · rw [show taken (numsOf s) = true by rw [e2]; decide]
    have n2 : (s.toList == [110, 111, 116]) = true := lit_yes rfl e2
    clear e2
    go_enter Tryd.func38, Tryd.ntmps38
    go_wp2_with fail
    go_ret
    exact ⟨rfl, rfl⟩
  have n2 : (s.toList == [110, 111, 116]) = false := lit_no rfl e2
  by_cases e3 : s = kTrue
  · rw [show taken (numsOf s) = true by rw [e3]; decide]
    have n3 : (s.toList == [116, 114, 117, 101]) = true := lit_yes rfl e3
    clear e3
    go_enter Tryd.func38, Tryd.ntmps38
    go_wp2_with fail
    go_ret
    exact ⟨rfl, rfl⟩
  have n3 : (s.toList == [116, 114, 117, 101]) = false := lit_no rfl e3
  by_cases e4 : s = kFalse
  · rw [show taken (numsOf s) = true by rw [e4]; decide]
    have n4 : (s.toList == [102, 97, 108, 115, 101]) = true := lit_yes rfl e4
    clear e4
    go_enter Tryd.func38, Tryd.ntmps38
    go_wp2_with fail
    go_ret
    exact ⟨rfl, rfl⟩
  have n4 : (s.toList == [102, 97, 108, 115, 101]) = false := lit_no rfl e4
  by_cases e5 : s = kOpen
  · rw [show taken (numsOf s) = true by rw [e5]; decide]
    have n5 : (s.toList == [111, 112, 101, 110]) = true := lit_yes rfl e5
    clear e5
    go_enter Tryd.func38, Tryd.ntmps38
    go_wp2_with fail
    go_ret
    exact ⟨rfl, rfl⟩
  have n5 : (s.toList == [111, 112, 101, 110]) = false := lit_no rfl e5
  by_cases e6 : s = kDone
  · rw [show taken (numsOf s) = true by rw [e6]; decide]
    have n6 : (s.toList == [100, 111, 110, 101]) = true := lit_yes rfl e6
    clear e6
    go_enter Tryd.func38, Tryd.ntmps38
    go_wp2_with fail
    go_ret
    exact ⟨rfl, rfl⟩
  have n6 : (s.toList == [100, 111, 110, 101]) = false := lit_no rfl e6
  have HT : Hid (taken (numsOf s) = false) := by
    show taken (numsOf s) = false
    unfold taken
    rw [decide_eq_false (nums_ne (l := tkAnd) e0 rfl)]
    rw [decide_eq_false (nums_ne (l := tkOr) e1 rfl)]
    rw [decide_eq_false (nums_ne (l := tkNot) e2 rfl)]
    rw [decide_eq_false (nums_ne (l := tkTrue) e3 rfl)]
    rw [decide_eq_false (nums_ne (l := tkFalse) e4 rfl)]
    rw [decide_eq_false (nums_ne (l := tkOpen) e5 rfl)]
    rw [decide_eq_false (nums_ne (l := tkDone) e6 rfl)]
    rfl
  clear e0 e1 e2 e3 e4 e5 e6
  go_enter Tryd.func38, Tryd.ntmps38
  go_wp2_with fail
  go_ret
  exact ⟨by rw [HT.out]; rfl, rfl⟩
end Go.Proofs.YtkcmidhpbaepoaaDoor.G
