/-
  Contract of the document's own answer Cut.
-/
import Derived.Test.YtdbgbaclgdkkjaaRefRead
namespace Go.Proofs.Ytdbgbaclgdkkjaa
open Go.RowKit Go.WideShapes

theorem refRead_some (p : Option Addr) (len cap : Nat) (xs : List Nat) (w : World) (n k : Nat) (hlen : len = xs.length) (hb : BIn w p xs) (hm : xs.length ≤ maxLen) (hr : readN xs = some (n, k)) :
    Calls Try.prog 19 #[.slice p len cap] w fun e w' => e = .returned (.tuple #[.int .u64 n, .int .i64 k, .int .i64 0]) ∧ w' = w := by
  subst hlen
  refine (refRead_any p cap xs w hb hm).mono fun e w' h => ⟨?_, h.2⟩
  rw [h.1, hr]; rfl
theorem refRead_none (p : Option Addr) (len cap : Nat) (xs : List Nat) (w : World) (hlen : len = xs.length) (hb : BIn w p xs) (hm : xs.length ≤ maxLen) (hr : readN xs = none) :
    Calls Try.prog 19 #[.slice p len cap] w fun e w' => e = .returned (.tuple #[.int .u64 0, .int .i64 0, .int .i64 8]) ∧ w' = w := by
  subst hlen
  refine (refRead_any p cap xs w hb hm).mono fun e w' h => ⟨?_, h.2⟩
  rw [h.1, hr]; rfl
set_option maxHeartbeats 400000 in
theorem refCut_none (p : Option Addr) (cap : Nat) (xs : List Nat) (w : World) (hb : BIn w p xs) (hm : xs.length ≤ maxLen) (hr : readN xs = none) :
    Calls Try.prog 23 #[.slice p xs.length cap] w fun e w' => e = .returned (.tuple #[.string ByteArray.empty, .slice none 0 0, .int .i64 8]) ∧ w' = w := by
  have HR : Hid _ := hr
  clear hr
  go_enter Try.func23, Try.ntmps23
  go_wp2_with fail
  refine (refRead_none p xs.length cap xs w rfl hb hm HR.out).mono ?_
  rintro e w1 ⟨rfl, rfl⟩
  go_wp2
  go_ret3
  exact ⟨rfl, rfl⟩
set_option maxHeartbeats 400000 in
theorem refCut_long (p : Option Addr) (cap : Nat) (xs : List Nat) (w : World) (hb : BIn w p xs) (hm : xs.length ≤ maxLen) (n k : Nat) (hr : readN xs = some (n, k)) (hl : xs.length < k + n) :
    Calls Try.prog 23 #[.slice p xs.length cap] w fun e w' => e = .returned (.tuple #[.string ByteArray.empty, .slice none 0 0, .int .i64 8]) ∧ w' = w := by
  obtain ⟨k1, k2, k3, k4⟩ := readN_some hr
  have hm' := hm
  unfold maxLen at hm'
  have HR : Hid _ := hr
  clear hr
  go_enter Try.func23, Try.ntmps23
  go_wp2_with fail
  refine (refRead_some p xs.length cap xs w n k rfl hb hm HR.out).mono ?_
  rintro e w1 ⟨rfl, rfl⟩
  clear HR hb
  go_wp2
  go_ret3
  exact ⟨rfl, rfl⟩
set_option maxHeartbeats 400000 in
theorem refCut_ok (p : Option Addr) (cap : Nat) (xs : List Nat) (w : World) (hb : BIn w p xs) (hm : xs.length ≤ 100000) (hcap : xs.length ≤ cap) (n k : Nat) (hr : readN xs = some (n, k)) (hl : k + n ≤ xs.length) :
    Calls Try.prog 23 #[.slice p xs.length cap] w fun e w' => ∃ v, e = .returned (.tuple #[.string (strOf ((xs.drop k).take n)), v, .int .i64 0]) ∧ w'.ownsRow w.heap.size 5 1 v (xs.drop (k + n)).length (Bs (xs.drop (k + n))) ∧ Below w.heap.size w w' := by
  obtain ⟨k1, k2, k3, k4⟩ := readN_some hr
  obtain ⟨b, o, rfl, hc⟩ := hb.1 (by omega)
  have HR : Hid _ := hr
  clear hr hc
  have hm' : xs.length ≤ maxLen := by unfold maxLen; omega
  have q1 : (0 : Int) ≤ (k : Int) + n ∧ (k : Int) + n ≤ cap := by omega
  have q2 : ((k : Int) + n).toNat = k + n := by omega
  have q3 : k ≤ k + n := by omega
  have q4 : (k : Int) + n ≤ xs.length := by omega
  have B1 := bin_part hb cap k hcap n
  have B2 := bin_part hb cap (k + n) hcap xs.length
  have e2 : Hid ((xs.drop (k + n)).take xs.length = xs.drop (k + n)) := List.take_of_length_le (by simp)
  rw [e2.out] at B2
  have L1 : Hid (n = ((xs.drop k).take n).length) := by show _ = _; simp; omega
  have L2 : Hid (xs.length - (k + n) = (xs.drop (k + n)).length) := by show _ = _; simp
  obtain ⟨A1, hA1⟩ : ∃ A, (if cap = k then some (⟨b, o, none⟩ : Addr) else some ⟨b, o + k, none⟩) = A := ⟨_, rfl⟩
  obtain ⟨A2, hA2⟩ : ∃ A, (if cap = k + n then some (⟨b, o, none⟩ : Addr) else some ⟨b, o + (k + n), none⟩) = A := ⟨_, rfl⟩
  rw [hA1] at B1
  rw [hA2] at B2
  have HB1 : Hid _ := B1
  have HB2 : Hid _ := B2
  have P2 : Hid (A2 = none → cap - (k + n) = 0) := by show _ → _; intro h; rw [h] at hA2; split at hA2 <;> cases hA2
  have Z2 : Hid (([] : List Nat).length + (xs.drop (k + n)).length ≤ 140737488355328) := by show _ ≤ _; simp; omega
  have HI : Hid (BIn w (some ⟨b, o, none⟩) xs) := hb
  clear B1 B2 hb
  go_enter Try.func23, Try.ntmps23
  go_wp2_with fail
  refine (refRead_some _ xs.length cap xs w n k rfl HI.out hm' HR.out).mono ?_
  rintro e w1 ⟨rfl, rfl⟩
  clear HR hm'
  go_wp2_with (at_builtin; refine wpList_append_bytes _ rfl _ _ rfl w1.heap.size _ [] (xs.drop (k + n)) A2 _ _ rfl rfl L2.out (World.ownsRow_nil _ _ _ _) HB2.out P2.out Z2.out (Nat.le_refl _) ?_)
  intro v' w2 hown hgrow
  have hbl : Below w1.heap.size w1 w2 := (Below.refl w1.heap.size w1).grown hgrow (Nat.le_refl _) (fun k hk => by simp [Value.ownBlock] at hk)
  have cv1 := conv_at (c := cap - k) (BIn.below HB1.out hbl) L1.out
  have HO : Hid (w2.ownsRow w1.heap.size 5 1 v' (xs.drop (k + n)).length (Bs (xs.drop (k + n)))) := by show World.ownsRow _ _ _ _ _ _ _; simpa using hown
  clear hown hgrow
  go_wp2
  go_ret3
  exact ⟨v', rfl, HO.out, hbl⟩
end Go.Proofs.Ytdbgbaclgdkkjaa
