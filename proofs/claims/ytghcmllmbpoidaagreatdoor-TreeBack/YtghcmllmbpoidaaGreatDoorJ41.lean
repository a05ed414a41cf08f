import Derived.Test.YtghcmllmbpoidaaGreatDoorJ23
import Derived.Test.YtghcmllmbpoidaaGreatDoorJ31
import Derived.Test.YtghcmllmbpoidaaGreatDoorJ30
import Derived.Test.YtghcmllmbpoidaaGreatDoorJ40
import Derived.Test.YtghcmllmbpoidaaGreatDoorJ05
namespace Go.Proofs.YtghcmllmbpoidaaGreatDoor
open Go.RowKit Go.WideShapes
theorem slot_like {D D' : List Nat} {a : Nat} (ha : a + 8 ≤ 16) (h : ∀ i : Nat, i < 16 → nowN D' [] (i : Int) = nowN D [] (i : Int)) : slotK D' [] a 8 = slotK D [] a 8 := by
  unfold slotK
  exact flat_congr fun i hi => h (a + i) (by omega)
theorem mount_like {n : Int} {D D' : List Nat} {r : Option (DirV × Int)} (hok : Okay n D' []) (h : ∀ i : Nat, i < 16 → nowN D' [] (i : Int) = nowN D [] (i : Int)) (hm : MountIs n D [] r 0) : MountIs n D' [] r 0 := by
  rcases hm with ⟨_, _, h0⟩ | ⟨_, _, _, h0⟩ | ⟨_, h96, a, b, h1, h2, h3, h4⟩
  · exact absurd h0 (by decide)
  · exact absurd h0 (by decide)
  · refine .inr (.inr ⟨hok, h96, a, b, ?_, ?_, h3, h4⟩)
    · rw [slot_like (by omega) h]; exact h1
    · rw [slot_like (by omega) h]; exact h2
theorem zeros_flat (k m : Nat) : (List.range k).flatMap (fun _ => List.replicate m (0 : Nat)) = List.replicate (k * m) 0 := by
  induction k with
  | zero => simp
  | succ k ih => rw [List.range_succ, List.flatMap_append, ih, List.flatMap_singleton, List.replicate_append_replicate, Nat.succ_mul]
theorem zeros_log : (List.range 64).flatMap (fun _ => List.replicate 128 (0 : Nat)) = List.replicate 8192 0 := zeros_flat 64 128
theorem num_zero (n k : Nat) : Lg.numAt (List.replicate n 0) k = 0 := by
  have h : ∀ j, (List.replicate n 0).getD j 0 = 0 := fun j => by
    simp only [List.getD, List.getElem?_replicate]
    split <;> rfl
  unfold Lg.numAt
  rw [h, h, h, h]
  rfl
theorem epoch_zero (n : Nat) : Lg.epochN (List.replicate n 0) = 0 := by
  have h : ∀ j, (List.replicate n 0).getD j 0 = 0 := fun j => by
    simp only [List.getD, List.getElem?_replicate]
    split <;> rfl
  unfold Lg.epochN
  simp only [h]
  split <;> rfl
theorem mostE_zeros (n k : Nat) : Lg.mostE (List.replicate n 0) k = 0 := by
  induction k with
  | zero => exact epoch_zero n
  | succ k ih => show max _ _ = 0; rw [ih, num_zero]; rfl
theorem mostS_zeros {e : Nat} (n k : Nat) : Lg.mostS e (List.replicate n 0) k = 0 := by
  induction k with
  | zero => rfl
  | succ k ih => show (if _ then max _ (max _ _) else _) = 0; rw [ih, num_zero, num_zero, num_zero]; split <;> rfl
theorem fmt_log {n : Nat} {D : List Nat} (h1 : 96 ≤ n) (h2 : n ≤ 4096) (h : FmtIs n D) : Lg.logN D [] = List.replicate 8192 0 := by
  rw [← zeros_log]
  unfold Lg.logN Lg.logK
  refine flat_congr fun i hi => ?_
  rw [← zero_now (n := n) (16 + i) (by omega)]
  refine now_keep (by omega) (zeros_okay h1 h2) h fun X hX => ?_
  rcases turnA_mem hX with h | ⟨j, hj, e1, _⟩
  · cases h
  · omega
theorem mostE_zero : Lg.mostE (List.replicate 8192 0) 63 + 1 = 1 := by rw [mostE_zeros]
theorem drop_zero : (List.replicate 8192 0).drop 128 = List.replicate 8064 0 := by rw [List.drop_replicate]
structure Dk (n : Int) (D : List Nat) (rs : List (List Nat)) (A la : Nat) (t : List Nat) : Prop where
  has : Lg.HasLog n D []
  mount : MountIs n D [] (some (emptyD, 0)) 0
  epoch : Lg.epochN (Lg.logN D []) = 1
  recs : Lg.Recs 1 0 ((Lg.logN D []).drop 128) rs A la t
theorem dk_first {n : Nat} {D : List Nat} (h1 : 96 ≤ n) (h2 : n ≤ 4096) (h : FmtIs n D) : Dk (n : Int) (settleN D [(16, Lg.headL 1)]) [] 0 0 (List.replicate 8064 0) := by
  have hl : Lg.HasLog (n : Int) D [] := ⟨fmt_okay h1 h2 h, by omega⟩
  have hlog := fmt_log h1 h2 h
  obtain ⟨e1, e2, _, _⟩ := Lg.recs_cleared (M := 1) hl (by simp) (by rw [hlog]; exact mostE_zero) (by omega)
  have hc := Lg.has_clear (M := 1) hl (by simp)
  rw [hlog, drop_zero] at e2
  have hok : Okay (n : Int) D ([] ++ [(16, Lg.headL 1)]) := by
    refine ⟨hl.ok.lo, hl.ok.hi, hl.ok.len, by simp, fun y hy => ?_⟩
    simp only [List.nil_append, List.mem_singleton] at hy
    subst hy
    exact ⟨by show (0 : Int) ≤ 16; omega, by show (16 : Int) < n; omega, Lg.headL_len 1⟩
  refine ⟨hc, mount_like hc.ok (fun i hi => ?_) (fmt_mount h1 h2 h), e1, e2⟩
  show nowN (settleN D ([] ++ [(16, Lg.headL 1)])) [] (i : Int) = _
  rw [now_settled hok (n := i) (by omega), now_written, if_neg (by omega)]
theorem dk_more {n : Int} {D : List Nat} {rs : List (List Nat)} {A la : Nat} {t r : List Nat} (h : Dk n D rs A la t) (S : Nat) (hS : Lg.mostS 1 t (63 - A) + 1 = S) (hS2 : S < 4294967296) (hr : r.length ≤ 4096) (hrb : ∀ c ∈ r, c < 256) (hfit : A + Lg.needsN r.length ≤ 63) :
    doAny n D [] (Lg.actsK ((17 + A : Nat) : Int) (Lg.frameN 1 S la r) (Lg.needsN r.length) ++ [(true, 0, [])]) = .ok (settleN D (Lg.putsK ((17 + A : Nat) : Int) (Lg.frameN 1 S la r) (Lg.needsN r.length)), []) ∧
    Dk n (settleN D (Lg.putsK ((17 + A : Nat) : Int) (Lg.frameN 1 S la r) (Lg.needsN r.length))) (rs ++ [r]) (A + Lg.needsN r.length) S (t.drop (Lg.needsN r.length * 128)) := by
  have hF := Lg.frameN_len 1 S la r
  have hb := h.has.big
  obtain ⟨e1, e2⟩ := Lg.recs_added (r := r) h.has (by simp) h.epoch h.recs hS hS2 hr hrb hfit
  have hok := (Lg.has_added (F := Lg.frameN 1 S la r) h.has (by simp) hfit hF).ok
  have hd := Lg.do_added (F := Lg.frameN 1 S la r) h.has (by simp) hfit hF
  rw [doAny_ok _ h.has.ok] at hd
  rw [List.nil_append] at hd hok e1 e2
  have hlog : Lg.logN (settleN D (Lg.putsK ((17 + A : Nat) : Int) (Lg.frameN 1 S la r) (Lg.needsN r.length))) [] = Lg.logN D (Lg.putsK ((17 + A : Nat) : Int) (Lg.frameN 1 S la r) (Lg.needsN r.length)) := by
    unfold Lg.logN Lg.logK
    exact flat_congr fun i hi => now_settled hok (n := 16 + i) (by omega)
  refine ⟨?_, ⟨okay_settled hok, hb⟩, mount_like (okay_settled hok) (fun i hi => ?_) h.mount, by rw [hlog]; exact e1, by rw [hlog]; exact e2⟩
  · rw [doAny_ok _ h.has.ok, doN_app, hd]
    rfl
  · rw [now_settled hok (n := i) (by omega)]
    have := Lg.now_puts (data := D) (ws := []) (fr := 17 + A) (xs := Lg.frameN 1 S la r) (Lg.needsN r.length) i
    rw [List.nil_append] at this
    rw [this, if_neg (by omega)]
def sA : ByteArray := { data := #[97] }
def sB : ByteArray := { data := #[98] }
def sX : ByteArray := { data := #[120] }
def sY : ByteArray := { data := #[121] }
def l2 : List Tr.CV := [⟨sA, sX, false⟩, ⟨sB, sY, false⟩]
def b12 : List Nat := [1, 2, 1, 97, 0, 1, 120, 1, 98, 0, 1, 121]
def E2 : List Mg.EntV := [⟨sA, sX, 1, false⟩, ⟨sB, sY, 1, false⟩]
theorem wr2 : Tr.writeE l2 1 = (0, b12) := by kernel_rfl
theorem b12_byte : ∀ c ∈ b12, c < 256 := by decide
theorem rd2 : Tr.readE Tr.gP (numsOf (strOf b12)) = some (l2, 1) := by
  rw [nums_strOf b12_byte]
  exact Tr.readE_of rfl rfl wr2
theorem row2 : rowC l2 1 = E2 := by kernel_rfl
theorem rows2 : rowsK [l2] 1 = [E2] := by
  unfold rowsK
  show [rowC l2 _] = _
  rw [show (((0 + 1 : Nat) : Int)) = 1 from rfl, row2]
theorem rise2 : Mg.RiseE E2 := by
  unfold E2
  refine List.pairwise_cons.2 ⟨fun x hx => ?_, List.pairwise_cons.2 ⟨fun x hx => (by cases hx), List.Pairwise.nil⟩⟩
  simp only [List.mem_singleton] at hx
  subst hx
  kernel_rfl
theorem allM2 : Mg.allM [E2] = E2 := by kernel_rfl
theorem chk2 : Mg.chkR [E2] = 0 := by kernel_rfl
theorem all2 : Mg.allE (rowsK [l2] 1) = (E2, 0) := by
  rw [rows2, Mg.allE_rise chk2 (by rw [allM2]; exact rise2), allM2]
theorem all0 : Mg.allE (rowsK [] 0) = ([], 0) := by
  rw [rowsK_zero, Mg.allE_rise (by kernel_rfl) (by exact List.Pairwise.nil)]
  rfl
end Go.Proofs.YtghcmllmbpoidaaGreatDoor
