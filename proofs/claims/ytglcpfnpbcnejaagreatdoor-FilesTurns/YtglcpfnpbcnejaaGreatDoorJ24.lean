/-
  The files of a disk behind changes, as the statements' map2 tells them, are those of the new directory; no program is named here.
-/
import Derived.Test.YtglcpfnpbcnejaaGreatDoorJ23
namespace Go.Proofs.YtglcpfnpbcnejaaGreatDoor
open Go.RowKit Go.WideShapes Rm Dk

/-- A sector's part of a file's bytes. -/
def partN (v : List Nat) (k : Nat) : List Nat := (v.drop (k * 128)).take 128 ++ List.replicate (128 - ((v.drop (k * 128)).take 128).length) 0
theorem partN_len (v : List Nat) (k : Nat) : (partN v k).length = 128 := by
  unfold partN
  simp
  omega
def fileA (f : FileV) (v : List Nat) : Acts := (List.range (secs f.pcs).length).map fun k => (false, (secs f.pcs).getD k 0, partN v k)
def filesA : List FileV → List (List Nat) → Acts
  | f :: fs, v :: vs => fileA f v ++ filesA fs vs
  | _, _ => []
end Go.Proofs.YtglcpfnpbcnejaaGreatDoor
namespace Go.Proofs.YtglcpfnpbcnejaaGreatDoor
open Go.RowKit Go.WideShapes Rm Dk

end Go.Proofs.YtglcpfnpbcnejaaGreatDoor
namespace Go.Proofs.YtglcpfnpbcnejaaGreatDoor
open Go.RowKit Go.WideShapes Rm Dk

theorem now_put {count : Int} {data D : List Nat} {ws W : Puts} {C : Acts} {s : Nat} {X : List Nat} (hs : (s : Int) < count) (ho : Okay count data ws) (e : doN count (data, ws) C = .ok (D, W)) (hX : ∀ x, (false, (s : Int), x) ∈ C → x = X) (hin : (false, (s : Int), X) ∈ C) : nowN D W (s : Int) = X := by
  rcases now_do (X := X) hs C [] (st := (data, ws)) (st' := (D, W)) ho (.inl (fun x hx => by cases hx)) hX e with h | h
  · exact absurd (by simpa using hin) (h X)
  · exact h
theorem now_keep {count : Int} {data D : List Nat} {ws W : Puts} {C : Acts} {s : Nat} (hs : (s : Int) < count) (ho : Okay count data ws) (e : doN count (data, ws) C = .ok (D, W)) (hno : ∀ x, (false, (s : Int), x) ∉ C) : nowN D W (s : Int) = nowN data ws (s : Int) := by
  rcases now_do (X := nowN data ws (s : Int)) hs C [(false, (s : Int), nowN data ws (s : Int))] (st := (data, ws)) (st' := (D, W)) ho (.inr rfl) (fun x hx => absurd hx (hno x)) e with h | h
  · exact absurd (by simp) (h (nowN data ws (s : Int)))
  · exact h
theorem can_do {count : Int} : ∀ {B : Acts} {data : List Nat} {ws : Puts}, (∀ a ∈ B, a.1 = true ∨ (0 ≤ a.2.1 ∧ a.2.1 < count ∧ a.2.2.length = 128)) → ws.length + B.length ≤ 4096 → ∃ D W, doN count (data, ws) B = .ok (D, W)
  | [], data, ws, _, _ => ⟨data, ws, rfl⟩
  | a :: B, data, ws, h, hl => by
    simp only [List.length_cons] at hl
    by_cases hf : a.1 = true
    · obtain ⟨D, W, e⟩ := can_do (B := B) (data := settleN data ws) (ws := []) (fun b hb => h b (List.mem_cons_of_mem _ hb)) (by simp; omega)
      refine ⟨D, W, ?_⟩
      rw [← e]
      show (match stepA count (data, ws) a with | .ok s => doN count s B | .error e => .error e) = _
      unfold stepA
      rw [if_pos hf]
    · obtain ⟨h1, h2, h3⟩ := (h a (by simp)).resolve_left hf
      obtain ⟨D, W, e⟩ := can_do (B := B) (data := data) (ws := ws ++ [a.2]) (fun b hb => h b (List.mem_cons_of_mem _ hb)) (by simp; omega)
      refine ⟨D, W, ?_⟩
      rw [← e]
      show (match stepA count (data, ws) a with | .ok s => doN count s B | .error e => .error e) = _
      unfold stepA
      rw [if_neg hf, if_neg (by simp; omega), if_neg (by simp [h3]), if_neg (by simp; omega)]
end Go.Proofs.YtglcpfnpbcnejaaGreatDoor
namespace Go.Proofs.YtglcpfnpbcnejaaGreatDoor
open Go.RowKit Go.WideShapes Rm

/-- A change: a name, the file's bytes, whether it goes. -/
structure ChgV where
  key : ByteArray
  val : List Nat
  gone : Bool
def puttingN (l : List ChgV) : List (ByteArray × List Nat) := (l.filter fun c => !c.gone).map fun c => (c.key, c.val)
def stayN (old : List FileV) (l : List ChgV) : List FileV := old.filter fun f => l.all fun c => decide (c.key ≠ f.name)
/-- Names that rise one by one rise in pairs. -/
theorem rises_pair {lt : ByteArray → ByteArray → Bool} (tr : ∀ a b c, lt a b = true → lt b c = true → lt a c = true) {l : List FileV} (h : Rises (fun a b => lt a b = true) l) : l.Pairwise fun f g => lt f.name g.name = true := by
  have hg : ∀ i (hi : i < l.length), l.getD i zeroF = l[i] := fun i hi => by rw [List.getD_eq_getElem?_getD, List.getElem?_eq_getElem hi]; rfl
  refine List.pairwise_iff_getElem.2 (fun i j hi hj hij => ?_)
  induction j with
  | zero => omega
  | succ j ih =>
    have h1 := h j (by omega)
    rw [hg j (by omega), hg (j + 1) hj] at h1
    rcases Nat.lt_or_ge i j with c | c
    · exact tr _ _ _ (ih (by omega) c) h1
    · obtain rfl : i = j := by omega
      exact h1
end Go.Proofs.YtglcpfnpbcnejaaGreatDoor
