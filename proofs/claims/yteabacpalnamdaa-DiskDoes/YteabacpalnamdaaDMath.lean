/-
  What the chapter 'disk' asks, over natural numbers and lists: sectors, writes that wait, what is made sure, acts; no program is named here.
-/
import Derived.Test.YteabacpalnamdaaLie
import Derived.Laws.CopyOwn
namespace Go.Proofs.Yteabacpalnamdaa
open Go.RowKit

/-- Writes that wait: the sector, its bytes. -/
abbrev Puts := List (Int × List Nat)
/-- A disk may be. -/
structure Okay (count : Int) (data : List Nat) (ws : Puts) : Prop where
  lo : 1 ≤ count
  hi : count ≤ 4096
  len : (data.length : Int) = count * 128
  few : ws.length ≤ 4096
  each : ∀ y ∈ ws, 0 ≤ y.1 ∧ y.1 < count ∧ y.2.length = 128

/-- The bytes of sector n. -/
def secN (data : List Nat) (n : Nat) : List Nat := (data.drop (n * 128)).take 128
/-- A write made sure. -/
def putS (data : List Nat) (y : Int × List Nat) : List Nat := splice data (y.1.toNat * 128) y.2
/-- The first k writes made sure. -/
def settleK (data : List Nat) (ws : Puts) : Nat → List Nat
  | 0 => data
  | k + 1 => putS (settleK data ws k) (ws.getD k (0, []))
/-- Of the first k writes those made sure that are kept. -/
def crashK (data : List Nat) (ws : Puts) (keep : List Bool) : Nat → List Nat
  | 0 => data
  | k + 1 => if keep.getD k false = true then putS (crashK data ws keep k) (ws.getD k (0, [])) else crashK data ws keep k
/-- The last one of the first k writes that are of sector n. -/
def nowK (ws : Puts) (n : Int) : Nat → Option (List Nat)
  | 0 => none
  | k + 1 => if (ws.getD k (0, [])).1 = n then some (ws.getD k (0, [])).2 else nowK ws n k
/-- A sector now. -/
def nowN (data : List Nat) (ws : Puts) (n : Int) : List Nat := (nowK ws n ws.length).getD (secN data n.toNat)
def settleN (data : List Nat) (ws : Puts) : List Nat := settleK data ws ws.length
def crashN (data : List Nat) (ws : Puts) (keep : List Bool) : List Nat := crashK data ws keep ws.length

theorem getD_mem {ws : Puts} {k : Nat} (h : k < ws.length) : ws.getD k (0, []) ∈ ws := by
  simp [List.getD, List.getElem?_eq_getElem h]
theorem Okay.wait {count : Int} {data : List Nat} {ws : Puts} (h : Okay count data ws) {k : Nat} (hk : k < ws.length) : 0 ≤ (ws.getD k (0, [])).1 ∧ (ws.getD k (0, [])).1 < count ∧ (ws.getD k (0, [])).2.length = 128 := h.each _ (getD_mem hk)
theorem secN_len {data : List Nat} {n : Nat} (h : (n + 1) * 128 ≤ data.length) : (secN data n).length = 128 := by
  simp [secN]; omega
theorem putS_len {data : List Nat} {y : Int × List Nat} (h : y.1.toNat * 128 + y.2.length ≤ data.length) : (putS data y).length = data.length := length_splice _ _ _ h
theorem settleK_len {count : Int} {data : List Nat} {ws : Puts} (h : Okay count data ws) : ∀ k, k ≤ ws.length → (settleK data ws k).length = data.length
  | 0, _ => rfl
  | k + 1, hk => by
    have ih := settleK_len h k (by omega)
    have hw := h.wait (show k < ws.length from hk)
    have := h.len
    rw [settleK, putS_len (by rw [ih, hw.2.2]; omega), ih]
theorem crashK_len {count : Int} {data : List Nat} {ws : Puts} (h : Okay count data ws) (keep : List Bool) : ∀ k, k ≤ ws.length → (crashK data ws keep k).length = data.length
  | 0, _ => rfl
  | k + 1, hk => by
    have ih := crashK_len h keep k (by omega)
    have hw := h.wait (show k < ws.length from hk)
    have := h.len
    rw [crashK]
    split
    · rw [putS_len (by rw [ih, hw.2.2]; omega), ih]
    · exact ih
theorem nowK_len {count : Int} {data : List Nat} {ws : Puts} (h : Okay count data ws) {n : Int} {xs : List Nat} : ∀ k, k ≤ ws.length → nowK ws n k = some xs → xs.length = 128 ∧ ∃ y ∈ ws, y.1 = n ∧ y.2 = xs
  | 0, _, e => by simp [nowK] at e
  | k + 1, hk, e => by
    rw [nowK] at e
    split at e
    · rename_i hn
      simp only [Option.some.injEq] at e
      exact ⟨by rw [← e]; exact (h.wait (show k < ws.length from hk)).2.2, _, getD_mem hk, hn, e⟩
    · exact nowK_len h k (by omega) e
theorem nowN_len {count : Int} {data : List Nat} {ws : Puts} (h : Okay count data ws) {n : Nat} (hn : (n : Int) < count) : (nowN data ws n).length = 128 := by
  unfold nowN
  cases e : nowK ws n ws.length with
  | none => have := h.len; exact secN_len (by simp; omega)
  | some xs => exact (nowK_len h _ (Nat.le_refl _) e).1
theorem okay_settled {count : Int} {data : List Nat} {ws : Puts} (h : Okay count data ws) : Okay count (settleN data ws) [] :=
  ⟨h.lo, h.hi, by rw [settleN, settleK_len h _ (Nat.le_refl _)]; exact h.len, by simp, by simp⟩
theorem okay_crashed {count : Int} {data : List Nat} {ws : Puts} (h : Okay count data ws) (keep : List Bool) : Okay count (crashN data ws keep) [] :=
  ⟨h.lo, h.hi, by rw [crashN, crashK_len h _ _ (Nat.le_refl _)]; exact h.len, by simp, by simp⟩
/-- Sectors behind a write. -/
theorem sec_put {data : List Nat} {y : Int × List Nat} {n : Nat} (h0 : 0 ≤ y.1) (h1 : y.2.length = 128) (h2 : y.1.toNat * 128 + 128 ≤ data.length) (hn : n * 128 + 128 ≤ data.length) :
    secN (putS data y) n = if y.1 = n then y.2 else secN data n := by
  obtain ⟨s, b⟩ := y
  obtain ⟨m, rfl⟩ := Int.eq_ofNat_of_zero_le h0
  simp only [Int.toNat_natCast, secN, putS, splice] at *
  split
  · rename_i e
    obtain rfl : m = n := by omega
    rw [List.drop_append_of_le_length (by simp; omega), List.drop_eq_nil_of_le (by simp; omega), List.nil_append, ← h1, List.take_left]
  · rename_i e
    have hne : m ≠ n := by omega
    apply List.ext_getElem?
    intro i
    simp only [List.getElem?_take, List.getElem?_drop]
    split
    · rename_i hi
      rcases Nat.lt_or_gt_of_ne hne with h | h
      · rw [List.getElem?_append_right (by simp; omega), List.getElem?_append_right (by simp; omega), List.getElem?_drop]
        congr 1
        simp; omega
      · rw [List.getElem?_append_left (by simp; omega), List.getElem?_take, if_pos (by omega)]
    · rfl
theorem sec_crash {count : Int} {data : List Nat} {ws : Puts} (h : Okay count data ws) (keep : List Bool) {n : Nat} (hn : (n : Int) < count) : ∀ k, k ≤ ws.length →
    secN (crashK data ws keep k) n = secN data n ∨ ∃ y ∈ ws, y.1 = n ∧ y.2 = secN (crashK data ws keep k) n
  | 0, _ => .inl rfl
  | k + 1, hk => by
    have ih := sec_crash h keep hn k (by omega)
    have hw := h.wait (show k < ws.length from hk)
    have hl := crashK_len h keep k (by omega)
    have hlen := h.len
    rw [crashK]
    split
    · rw [sec_put hw.1 hw.2.2 (by omega) (by omega)]
      split
      · rename_i e
        exact .inr ⟨_, getD_mem hk, e, rfl⟩
      · exact ih
    · exact ih
theorem sec_settle {count : Int} {data : List Nat} {ws : Puts} (h : Okay count data ws) {n : Nat} (hn : (n : Int) < count) : ∀ k, k ≤ ws.length → secN (settleK data ws k) n = (nowK ws n k).getD (secN data n)
  | 0, _ => rfl
  | k + 1, hk => by
    have ih := sec_settle h hn k (by omega)
    have hw := h.wait (show k < ws.length from hk)
    have hl := settleK_len h k (by omega)
    have hlen := h.len
    rw [settleK, sec_put hw.1 hw.2.2 (by omega) (by omega), nowK]
    split
    · rfl
    · exact ih
/-- A flush changes nothing that is read. -/
theorem now_settled {count : Int} {data : List Nat} {ws : Puts} (h : Okay count data ws) {n : Nat} (hn : (n : Int) < count) : nowN (settleN data ws) [] n = nowN data ws n := by
  have := sec_settle h hn ws.length (Nat.le_refl _)
  simpa [nowN, nowK, settleN] using this
theorem crash_all {data : List Nat} {ws : Puts} {keep : List Bool} (hk : ∀ k, k < ws.length → keep.getD k false = true) : ∀ k, k ≤ ws.length → crashK data ws keep k = settleK data ws k
  | 0, _ => rfl
  | k + 1, h => by rw [crashK, settleK, if_pos (hk k h), crash_all hk k (by omega)]
theorem crash_none {data : List Nat} {ws : Puts} : ∀ k, crashK data ws [] k = data
  | 0 => rfl
  | k + 1 => by rw [crashK, if_neg (by simp), crash_none k]
theorem getD_app_left {ws : Puts} {y : Int × List Nat} {k : Nat} (h : k < ws.length) : (ws ++ [y]).getD k (0, []) = ws.getD k (0, []) := by
  simp [List.getD, List.getElem?_append_left h]
theorem nowK_app {ws : Puts} {y : Int × List Nat} {n : Int} : ∀ k, k ≤ ws.length → nowK (ws ++ [y]) n k = nowK ws n k
  | 0, _ => rfl
  | k + 1, h => by rw [nowK, nowK, getD_app_left (show k < ws.length from h), nowK_app k (by omega)]
/-- What was written is read; all else as it was. -/
theorem now_written {data : List Nat} {ws : Puts} {y : Int × List Nat} {n : Int} : nowN data (ws ++ [y]) n = if y.1 = n then y.2 else nowN data ws n := by
  unfold nowN
  have e : (ws ++ [y]).length = ws.length + 1 := by simp
  rw [e, nowK]
  have e2 : (ws ++ [y]).getD ws.length (0, []) = y := by simp [List.getD]
  rw [e2, nowK_app _ (Nat.le_refl _)]
  split <;> rfl

/-- Acts: whether it flushes, its sector, its bytes. -/
abbrev Acts := List (Bool × Int × List Nat)
/-- One act: an error, or the disk then. -/
def stepA (count : Int) (s : List Nat × Puts) (a : Bool × Int × List Nat) : Except Int (List Nat × Puts) :=
  if a.1 = true then .ok (settleN s.1 s.2, [])
  else if ¬ (0 ≤ a.2.1 ∧ a.2.1 < count) then .error 21
  else if a.2.2.length ≠ 128 then .error 8
  else if 4096 ≤ s.2.length then .error 4
  else .ok (s.1, s.2 ++ [a.2])
def doN (count : Int) : List Nat × Puts → Acts → Except Int (List Nat × Puts)
  | s, [] => .ok s
  | s, a :: l => match stepA count s a with
    | .ok s' => doN count s' l
    | .error e => .error e
theorem doN_app (count : Int) (l m : Acts) : ∀ s, doN count s (l ++ m) = match doN count s l with | .ok s' => doN count s' m | .error e => .error e := by
  induction l with
  | nil => intro s; rfl
  | cons a l ih =>
    intro s
    simp only [List.cons_append, doN]
    cases stepA count s a with
    | ok s' => exact ih s'
    | error e => rfl
theorem take_succ_getD {l : Acts} {k : Nat} (h : k < l.length) : l.take (k + 1) = l.take k ++ [l.getD k (false, 0, [])] := by
  rw [List.take_succ_eq_append_getElem h]; simp [List.getD, List.getElem?_eq_getElem h]
theorem doN_step {count : Int} {s s' : List Nat × Puts} {l : Acts} {k : Nat} (h : k < l.length) (e : doN count s (l.take k) = .ok s') : doN count s (l.take (k + 1)) = stepA count s' (l.getD k (false, 0, [])) := by
  rw [take_succ_getD h, doN_app, e]
  show doN count s' _ = _
  simp only [doN]
  cases stepA count s' (l.getD k (false, 0, [])) <;> rfl
theorem doN_fail {count : Int} {s : List Nat × Puts} {l : Acts} {k : Nat} {c : Int} (e : doN count s (l.take k) = .error c) : doN count s l = .error c := by
  rw [← List.take_append_drop k l, doN_app, e]
theorem okay_step {count : Int} {s s' : List Nat × Puts} {a : Bool × Int × List Nat} (h : Okay count s.1 s.2) (e : stepA count s a = .ok s') : Okay count s'.1 s'.2 := by
  unfold stepA at e
  split at e
  · simp only [Except.ok.injEq] at e; subst e; exact okay_settled h
  · split at e
    · cases e
    · split at e
      · cases e
      · split at e
        · cases e
        · rename_i h1 h2 h3 h4
          simp only [Except.ok.injEq] at e
          subst e
          refine ⟨h.lo, h.hi, h.len, by simp; omega, ?_⟩
          intro y hy
          simp only [List.mem_append, List.mem_singleton] at hy
          rcases hy with hy | rfl
          · exact h.each y hy
          · have := Decidable.not_not.1 h2
            exact ⟨this.1, this.2, Decidable.not_not.1 h3⟩
theorem okay_do {count : Int} (l : Acts) : ∀ {s s' : List Nat × Puts}, Okay count s.1 s.2 → doN count s l = .ok s' → Okay count s'.1 s'.2 := by
  induction l with
  | nil => intro s s' h e; simp only [doN, Except.ok.injEq] at e; subst e; exact h
  | cons a l ih =>
    intro s s' h e
    simp only [doN] at e
    cases e1 : stepA count s a with
    | ok t => rw [e1] at e; exact ih (okay_step h e1) e
    | error c => rw [e1] at e; cases e
end Go.Proofs.Yteabacpalnamdaa
