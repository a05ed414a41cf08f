/-
  The filter of two lists of keys together is that of both, bit by bit, in any order, at any two lists (of lists of more than 300 keys the statement asks nothing).
-/
import Derived.Test.YtidjgilipffdpaaJ03
import Derived.WalkKit
import Derived.OpenShut
import Derived.Deep.QuietTactic
import Derived.BigQuiet
import Derived.Laws.AppendOwnNone
import Derived.Deep.OwnRows
import Derived.Deep.Cut
import Derived.RegionTactic
import Derived.Test.YtidjgilipffdpaaRows
import Derived.ProofKit
import Derived.ShutString
import Derived.ChangeOld
import Derived.Below
namespace Go.Proofs.Ytidjgilipffdpaa
open Go.RowKit Go.WideShapes

theorem Make_many (q : Option Addr) (n c : Nat) (z : Int) (w : World) (hN : (4096 : Int) < (n : Int)) :
    Calls Try.prog 10 #[.slice q n c, .int .i64 z] w fun e w' => e = .returned (.tuple #[.slice none 0 0, .int .i64 4]) ∧ w' = w := by
  go_enter Try.func10, Try.ntmps10
  go_wp2
  go_ret2
  exact ⟨rfl, rfl⟩
theorem Make_long (q : Option Addr) (n c : Nat) (z : Int) (l : List ByteArray) (w : World) (hn : n = l.length) (hl : StrsIn w q l) (hN : (n : Int) ≤ 4096) (hlong : longB l = true) :
    Calls Try.prog 10 #[.slice q n c, .int .i64 z] w fun e w' => e = .returned (.tuple #[.slice none 0 0, .int .i64 3]) ∧ w' = w := by
  have HC := containsFunc_any q n c l w hn hl (by omega) true hlong
  clear hn hl hlong
  go_enter Try.func10, Try.ntmps10
  go_wp2_with fail
  refine HC.mono ?_
  rintro e w1 ⟨rfl, rfl⟩
  go_wp2
  go_ret2
  exact ⟨rfl, rfl⟩
theorem Make_arg (q : Option Addr) (n c : Nat) (z : Int) (l : List ByteArray) (w : World) (hn : n = l.length) (hl : StrsIn w q l) (hN : (n : Int) ≤ 4096) (hlong : longB l = false) (hz : z < 8 ∨ 65536 < z ∨ z % 8 ≠ 0) :
    Calls Try.prog 10 #[.slice q n c, .int .i64 z] w fun e w' => e = .returned (.tuple #[.slice none 0 0, .int .i64 2]) ∧ w' = w := by
  have HC := containsFunc_any q n c l w hn hl (by omega) false hlong
  clear hn hl hlong
  by_cases h1 : z < 8
  · clear hz
    go_enter Try.func10, Try.ntmps10
    go_wp2_with fail
    refine HC.mono ?_
    rintro e w1 ⟨rfl, rfl⟩
    go_wp2
    go_ret2
    exact ⟨rfl, rfl⟩
  · by_cases h2 : 65536 < z
    · clear hz
      go_enter Try.func10, Try.ntmps10
      go_wp2_with fail
      refine HC.mono ?_
      rintro e w1 ⟨rfl, rfl⟩
      go_wp2
      go_ret2
      exact ⟨rfl, rfl⟩
    · have g1 : (z % 8 != 0) = true := by simp; omega
      have h3 : 8 ≤ z := by omega
      have h4 : z ≤ 65536 := by omega
      clear hz h1 h2
      go_enter Try.func10, Try.ntmps10
      go_wp2_with fail
      refine HC.mono ?_
      rintro e w1 ⟨rfl, rfl⟩
      go_wp2
      go_ret2
      exact ⟨rfl, rfl⟩
theorem Has_arg (p : Option Addr) (L cap : Nat) (s : ByteArray) (w : World) (h : (L : Int) < 1 ∨ (8192 : Int) < (L : Int)) :
    Calls Try.prog 11 #[.slice p L cap, .string s] w fun e w' => e = .returned (.tuple #[.bool false, .int .i64 2]) ∧ w' = w := by
  rcases h with h | h
  · go_enter Try.func11, Try.ntmps11
    go_wp2
    go_ret2
    exact ⟨rfl, rfl⟩
  · have h' : ¬ ((L : Int) < 1) := by omega
    go_enter Try.func11, Try.ntmps11
    go_wp2
    go_ret2
    exact ⟨rfl, rfl⟩
theorem Has_long (p : Option Addr) (L cap : Nat) (s : ByteArray) (w : World) (h1 : (1 : Int) ≤ (L : Int)) (h2 : (L : Int) ≤ 8192) (hs : (256 : Int) < (s.size : Int)) :
    Calls Try.prog 11 #[.slice p L cap, .string s] w fun e w' => e = .returned (.tuple #[.bool false, .int .i64 3]) ∧ w' = w := by
  have g1 : decide ((256 : Int) < (s.size : Int)) = true := decide_eq_true hs
  clear hs
  go_enter Try.func11, Try.ntmps11
  go_wp2_with fail
  refine (tooLong_any s _).mono ?_
  rintro e w2 ⟨rfl, rfl⟩
  rw [g1]
  go_wp2
  go_ret2
  exact ⟨rfl, rfl⟩
set_option maxRecDepth 8000 in
set_option maxHeartbeats 4000000 in
theorem Has_ok (p : Option Addr) (L cap : Nat) (xs : List Nat) (s : ByteArray) (w : World) (hL : L = xs.length) (hb : BIn w p xs) (h1 : (1 : Int) ≤ (L : Int)) (h2 : (L : Int) ≤ 8192) (hs : (s.size : Int) ≤ 256) (r : Bool) (hr : hasB xs s = r) :
    Calls Try.prog 11 #[.slice p L cap, .string s] w fun e w' => e = .returned (.tuple #[.bool r, .int .i64 0]) ∧ Below w.heap.size w w' := by
  have g1 : decide ((256 : Int) < (s.size : Int)) = false := decide_eq_false (by omega)
  obtain ⟨m, hm⟩ : ∃ m, 8 * L = m := ⟨_, rfl⟩
  have hmI : (8 : Int) * (L : Int) = (m : Int) := by omega
  obtain ⟨m0, e0⟩ : ∃ a, markAt s 0 % m = a := ⟨_, rfl⟩
  obtain ⟨m1, e1⟩ : ∃ a, markAt s 1 % m = a := ⟨_, rfl⟩
  obtain ⟨m2, e2⟩ : ∃ a, markAt s 2 % m = a := ⟨_, rfl⟩
  obtain ⟨m3, e3⟩ : ∃ a, markAt s 3 % m = a := ⟨_, rfl⟩
  have HM : Hid (marksN s m = [m0, m1, m2, m3]) := by show _ = _; unfold marksN; rw [e0, e1, e2, e3]
  have HMl : Hid (m0 < m ∧ m1 < m ∧ m2 < m ∧ m3 < m) := by
    have h := marksN_lt s m (by omega)
    rw [HM.out] at h
    exact ⟨h _ (by simp), h _ (by simp), h _ (by simp), h _ (by simp)⟩
  have HMk := marks_any s m
  rw [e0, e1, e2, e3] at HMk
  have HMc : Hid (∀ w : World, Calls Try.prog 18 #[.string s, .int .i64 m] w fun e w' => e = .returned (.agg #[.int .i64 m0, .int .i64 m1, .int .i64 m2, .int .i64 m3]) ∧ Below w.heap.size w w') := fun w => HMk w hs (by omega) (by omega)
  have HR : Hid ((((xs.getD (m0 / 8) 0).testBit (m0 % 8)) && (((xs.getD (m1 / 8) 0).testBit (m1 % 8)) && (((xs.getD (m2 / 8) 0).testBit (m2 % 8)) && ((xs.getD (m3 / 8) 0).testBit (m3 % 8))))) = r) := by
    show _ = _
    rw [← hr]
    unfold hasB
    rw [← hL, hm, HM.out]
    simp
  have HLk : Hid (∀ (n : Nat) (r : Bool) (w' : World), n < m → Below w.heap.size w w' → (xs.getD (n / 8) 0).testBit (n % 8) = (!r) → Calls Try.prog 21 #[.slice p L cap, .int .i64 n] w' fun e w2 => e = .returned (.bool r) ∧ w2 = w') := fun n r w' hn hbl hr => lacks_any p L cap n xs w' hL (hb.below hbl) (by omega) (by omega) r hr
  obtain ⟨b0, hb0⟩ : ∃ b, (xs.getD (m0 / 8) 0).testBit (m0 % 8) = b := ⟨_, rfl⟩
  obtain ⟨b1, hb1⟩ : ∃ b, (xs.getD (m1 / 8) 0).testBit (m1 % 8) = b := ⟨_, rfl⟩
  obtain ⟨b2, hb2⟩ : ∃ b, (xs.getD (m2 / 8) 0).testBit (m2 % 8) = b := ⟨_, rfl⟩
  obtain ⟨b3, hb3⟩ : ∃ b, (xs.getD (m3 / 8) 0).testBit (m3 % 8) = b := ⟨_, rfl⟩
  rw [hb0, hb1, hb2, hb3] at HR
  have HBs : Hid ((xs.getD (m0 / 8) 0).testBit (m0 % 8) = b0 ∧ (xs.getD (m1 / 8) 0).testBit (m1 % 8) = b1 ∧ (xs.getD (m2 / 8) 0).testBit (m2 % 8) = b2 ∧ (xs.getD (m3 / 8) 0).testBit (m3 % 8) = b3) := ⟨hb0, hb1, hb2, hb3⟩
  clear hb0 hb1 hb2 hb3 e0 e1 e2 e3 HMk hr hm hb hL HM
  have i0 : ∀ w, (Instr.index 46 (.agg #[.int .i64 m0, .int .i64 m1, .int .i64 m2, .int .i64 m3]) (.int .i64 0)).run Try.prog w = .ok (.int .i64 m0) w := fun _ => by kernel_rfl
  have i1 : ∀ w, (Instr.index 46 (.agg #[.int .i64 m0, .int .i64 m1, .int .i64 m2, .int .i64 m3]) (.int .i64 1)).run Try.prog w = .ok (.int .i64 m1) w := fun _ => by kernel_rfl
  have i2 : ∀ w, (Instr.index 46 (.agg #[.int .i64 m0, .int .i64 m1, .int .i64 m2, .int .i64 m3]) (.int .i64 2)).run Try.prog w = .ok (.int .i64 m2) w := fun _ => by kernel_rfl
  have i3 : ∀ w, (Instr.index 46 (.agg #[.int .i64 m0, .int .i64 m1, .int .i64 m2, .int .i64 m3]) (.int .i64 3)).run Try.prog w = .ok (.int .i64 m3) w := fun _ => by kernel_rfl
  go_enter Try.func11, Try.ntmps11
  go_wp2_with fail
  refine (tooLong_any s _).mono ?_
  rintro e w2 ⟨rfl, rfl⟩
  rw [g1]
  go_wp2_with fail
  refine (HMc.out _).mono ?_
  rintro e w3 ⟨rfl, hb3⟩
  have HB3 : Hid (Below w2.heap.size w2 w3) := hb3
  clear hb3
  go_wp2
  refine wp_loop_rounds 5 ?_
  rw [rounds_succ]
  go_wp2_with fail
  cases b0
  · refine (HLk.out m0 true _ HMl.out.1 HB3.out (by rw [HBs.out.1]; rfl)).mono ?_
    rintro e w4 ⟨rfl, rfl⟩
    go_wp2
    go_ret2
    exact ⟨by rw [← HR.out]; simp, HB3.out⟩
  · refine (HLk.out m0 false _ HMl.out.1 HB3.out (by rw [HBs.out.1]; rfl)).mono ?_
    rintro e w4 ⟨rfl, rfl⟩
    go_wp2
    rw [rounds_succ]
    go_wp2_with fail
    cases b1
    · refine (HLk.out m1 true _ HMl.out.2.1 HB3.out (by rw [HBs.out.2.1]; rfl)).mono ?_
      rintro e w4 ⟨rfl, rfl⟩
      go_wp2
      go_ret2
      exact ⟨by rw [← HR.out]; simp, HB3.out⟩
    · refine (HLk.out m1 false _ HMl.out.2.1 HB3.out (by rw [HBs.out.2.1]; rfl)).mono ?_
      rintro e w4 ⟨rfl, rfl⟩
      go_wp2
      rw [rounds_succ]
      go_wp2_with fail
      cases b2
      · refine (HLk.out m2 true _ HMl.out.2.2.1 HB3.out (by rw [HBs.out.2.2.1]; rfl)).mono ?_
        rintro e w4 ⟨rfl, rfl⟩
        go_wp2
        go_ret2
        exact ⟨by rw [← HR.out]; simp, HB3.out⟩
      · refine (HLk.out m2 false _ HMl.out.2.2.1 HB3.out (by rw [HBs.out.2.2.1]; rfl)).mono ?_
        rintro e w4 ⟨rfl, rfl⟩
        go_wp2
        rw [rounds_succ]
        go_wp2_with fail
        cases b3
        · refine (HLk.out m3 true _ HMl.out.2.2.2 HB3.out (by rw [HBs.out.2.2.2]; rfl)).mono ?_
          rintro e w4 ⟨rfl, rfl⟩
          go_wp2
          go_ret2
          exact ⟨by rw [← HR.out]; simp, HB3.out⟩
        · refine (HLk.out m3 false _ HMl.out.2.2.2 HB3.out (by rw [HBs.out.2.2.2]; rfl)).mono ?_
          rintro e w4 ⟨rfl, rfl⟩
          go_wp2
          rw [rounds_succ]
          go_wp2
          go_ret2
          exact ⟨by rw [← HR.out]; rfl, HB3.out⟩
theorem Marks_long (s : ByteArray) (z : Int) (w : World) (hs : (256 : Int) < (s.size : Int)) :
    Calls Try.prog 9 #[.string s, .int .i64 z] w fun e w' => e = .returned (.tuple #[.slice none 0 0, .int .i64 3]) ∧ w' = w := by
  have g1 : decide ((256 : Int) < (s.size : Int)) = true := decide_eq_true hs
  clear hs
  go_enter Try.func9, Try.ntmps9
  go_wp2_with fail
  refine (tooLong_any s _).mono ?_
  rintro e w2 ⟨rfl, rfl⟩
  rw [g1]
  go_wp2
  go_ret2
  exact ⟨rfl, rfl⟩
theorem Marks_arg (s : ByteArray) (z : Int) (w : World) (hs : (s.size : Int) ≤ 256) (hz : z < 1 ∨ 65536 < z) :
    Calls Try.prog 9 #[.string s, .int .i64 z] w fun e w' => e = .returned (.tuple #[.slice none 0 0, .int .i64 2]) ∧ w' = w := by
  have g1 : decide ((256 : Int) < (s.size : Int)) = false := decide_eq_false (by omega)
  clear hs
  rcases hz with h | h
  · go_enter Try.func9, Try.ntmps9
    go_wp2_with fail
    refine (tooLong_any s _).mono ?_
    rintro e w2 ⟨rfl, rfl⟩
    rw [g1]
    go_wp2
    go_ret2
    exact ⟨rfl, rfl⟩
  · have h' : ¬ (z < 1) := by omega
    go_enter Try.func9, Try.ntmps9
    go_wp2_with fail
    refine (tooLong_any s _).mono ?_
    rintro e w2 ⟨rfl, rfl⟩
    rw [g1]
    go_wp2
    go_ret2
    exact ⟨rfl, rfl⟩
/-- Numbers as cells. -/
def Is (l : List Nat) : List Value := l.map fun n : Nat => Value.int .i64 (n : Int)
theorem Marks_ok (s : ByteArray) (m : Nat) (w : World) (hs : (s.size : Int) ≤ 256) (h0 : (1 : Int) ≤ (m : Int)) (hm : (m : Int) ≤ 65536) :
    Calls Try.prog 9 #[.string s, .int .i64 m] w fun e w' => ∃ g, e = .returned (.tuple #[.slice (some ⟨g, 0, none⟩) 4 4, .int .i64 0]) ∧ w'.heap[g]? = some (.cells (Is (marksN s m)).toArray 46 (0, 0)) ∧ w.heap.size ≤ g ∧ Below w.heap.size w w' := by
  have g1 : decide ((256 : Int) < (s.size : Int)) = false := decide_eq_false (by omega)
  have HMc := marks_any s m
  obtain ⟨m0, e0⟩ : ∃ a, markAt s 0 % m = a := ⟨_, rfl⟩
  obtain ⟨m1, e1⟩ : ∃ a, markAt s 1 % m = a := ⟨_, rfl⟩
  obtain ⟨m2, e2⟩ : ∃ a, markAt s 2 % m = a := ⟨_, rfl⟩
  obtain ⟨m3, e3⟩ : ∃ a, markAt s 3 % m = a := ⟨_, rfl⟩
  have HM : Hid (marksN s m = [m0, m1, m2, m3]) := by show _ = _; unfold marksN; rw [e0, e1, e2, e3]
  rw [e0, e1, e2, e3] at HMc
  have HC : Hid (∀ w : World, Calls Try.prog 18 #[.string s, .int .i64 m] w fun e w' => e = .returned (.agg #[.int .i64 m0, .int .i64 m1, .int .i64 m2, .int .i64 m3]) ∧ Below w.heap.size w w') := fun w => HMc w hs (by omega) hm
  clear HMc e0 e1 e2 e3 hs
  go_enter Try.func9, Try.ntmps9
  go_wp2_with fail
  refine (tooLong_any s _).mono ?_
  rintro e w2 ⟨rfl, rfl⟩
  rw [g1]
  go_wp2_with fail
  refine (HC.out _).mono ?_
  rintro e w3 ⟨rfl, hb3⟩
  have HB3 : Hid (Below w2.heap.size w2 w3) := hb3
  clear hb3
  go_wp2
  go_ret2
  refine ⟨w3.heap.size, rfl, ?_, HB3.out.size, below_bt HB3.out (below_alloc _ _)⟩
  rw [HM.out]
  exact heap_alloc_new w3 _
end Go.Proofs.Ytidjgilipffdpaa
namespace Go.Proofs.Ytidjgilipffdpaa
open Go.RowKit Go.WideShapes Go.ChangeShapes

structure StrRow (w : World) (v : Value) (l : List ByteArray) : Prop where
  lies : ∃ q c, v = .slice q l.length c ∧ StrsIn w q l ∧ l.length ≤ c ∧ c ≤ maxLen ∧ (q = none → c = 0)
  each : ∀ s ∈ l, s.size ≤ maxLen
section
variable {P : Program} {w : World} {H : Type} {enc : TypeId × Value → H}
theorem open_strs {t e : TypeId} {n : Nat} {v : Value} {x : DataW H × List MemPlace} (ht : P.underlying t = some (.slice e)) (he : P.underlying e = some .string) (hc : P.cellsOf e = 1)
    (h : DataW.trod enc P w 0 (fun _ => true) true n t [v] = some x) : ∃ l, StrRow w v l := by
  rcases open_strings ht he hc h with ⟨hcs, _⟩ | ⟨a, len, cap, ss, hcs, _, hl, hm, hz, _, hcell, hsz⟩
  · simp only [List.cons.injEq, and_true] at hcs
    exact ⟨[], ⟨none, 0, hcs, fun h => absurd h (by simp), by simp, by unfold maxLen; omega, fun _ => rfl⟩, by simp⟩
  · simp only [List.cons.injEq, and_true] at hcs
    have hz' : ss.length = cap := by simpa using hz
    have hlen : (ss.take len).length = len := by simp; omega
    refine ⟨ss.take len, ⟨⟨some a, cap, by rw [hlen]; exact hcs, fun hp => ?_, by rw [hlen]; exact hl, hm, by simp⟩, fun s hs => hsz s (List.mem_of_mem_take hs)⟩⟩
    rw [hlen] at hp
    obtain ⟨b, o, s⟩ := a
    obtain rfl : s = none := by simpa [Addr.add] using World.cell?_spot (hcell 0 (by omega))
    refine ⟨b, o, rfl, fun i hi => ?_⟩
    rw [hlen] at hi
    rw [← add_plain, hcell i (by omega)]
    simp [List.getD, List.getElem?_take_of_lt hi]
end
def makeE (l : List ByteArray) (z : Int) : Nat := if 4096 < l.length then 4 else if longB l = true then 3 else if z < 8 ∨ 65536 < z ∨ z % 8 ≠ 0 then 2 else 0
theorem makeE_ok {l : List ByteArray} {z : Int} (h : makeE l z = 0) : l.length ≤ 4096 ∧ longB l = false ∧ 8 ≤ z ∧ z ≤ 65536 ∧ z % 8 = 0 := by
  unfold makeE at h
  split at h
  · cases h
  · split at h
    · cases h
    · split at h
      · cases h
      · rename_i h1 h2 h3
        exact ⟨by omega, by simpa using h2, by omega, by omega, by omega⟩
theorem makeE_is {l : List ByteArray} {z : Int} (h1 : l.length ≤ 4096) (h2 : longB l = false) (h3 : 8 ≤ z) (h4 : z ≤ 65536) (h5 : z % 8 = 0) : makeE l z = 0 := by
  unfold makeE
  rw [if_neg (by omega), if_neg (by simp [h2]), if_neg (by omega)]
theorem makeE_range (l : List ByteArray) (z : Int) : makeE l z ≤ 4 := by
  unfold makeE
  split
  · omega
  · split
    · omega
    · split <;> omega
/-- What Make answers. -/
structure Made (w w' : World) (v : Value) (l : List ByteArray) (z : Int) : Prop where
  no : makeE l z ≠ 0 → v = .slice none 0 0
  yes : makeE l z = 0 → ∃ g, v = .slice (some ⟨g, 0, none⟩) (z.toNat / 8) (z.toNat / 8) ∧ w'.heap[g]? = some (.cells (Bs (makeN l z.toNat)).toArray 5 (0, 0)) ∧ w.heap.size ≤ g
  below : Below w.heap.size w w'
theorem Make_u (q : Option Addr) (n c : Nat) (l : List ByteArray) (z : Int) (w : World) (hn : n = l.length) (hl : StrsIn w q l) (E : Nat) (hE : makeE l z = E) :
    Calls Try.prog 10 #[.slice q n c, .int .i64 z] w fun e w' => ∃ v, e = .returned (.tuple #[v, .int .i64 E]) ∧ Made w w' v l z := by
  subst hE
  by_cases h1 : 4096 < l.length
  · have e : makeE l z = 4 := by unfold makeE; rw [if_pos h1]
    rw [e]
    refine (Make_many q n c z w (by omega)).mono ?_
    rintro _ w' ⟨rfl, rfl⟩
    exact ⟨_, rfl, fun _ => rfl, fun h => (by rw [e] at h; cases h), Below.refl _ _⟩
  · cases h2 : longB l with
    | true =>
      have e : makeE l z = 3 := by unfold makeE; rw [if_neg h1, if_pos h2]
      rw [e]
      refine (Make_long q n c z l w hn hl (by omega) h2).mono ?_
      rintro _ w' ⟨rfl, rfl⟩
      exact ⟨_, rfl, fun _ => rfl, fun h => (by rw [e] at h; cases h), Below.refl _ _⟩
    | false =>
      by_cases h3 : z < 8 ∨ 65536 < z ∨ z % 8 ≠ 0
      · have e : makeE l z = 2 := by unfold makeE; rw [if_neg h1, if_neg (by simp [h2]), if_pos h3]
        rw [e]
        refine (Make_arg q n c z l w hn hl (by omega) h2 h3).mono ?_
        rintro _ w' ⟨rfl, rfl⟩
        exact ⟨_, rfl, fun _ => rfl, fun h => (by rw [e] at h; cases h), Below.refl _ _⟩
      · have e : makeE l z = 0 := makeE_is (by omega) h2 (by omega) (by omega) (by omega)
        rw [e]
        obtain ⟨m, rfl⟩ : ∃ m : Nat, z = m := ⟨z.toNat, by omega⟩
        refine (Make_ok q n c m l w hn hl (by omega) h2 (by omega) (by omega) (by omega)).mono ?_
        rintro _ w' ⟨g, rfl, hf⟩
        exact ⟨_, rfl, fun h => absurd e h, fun _ => ⟨g, by simp, by simpa using hf.blk, hf.ge⟩, hf.below⟩
theorem below_dr (w : World) (n : Nat) : Below w.heap.size w (w.drewN n) := ⟨rfl, rfl, rfl, Nat.le_refl _, fun _ _ => rfl⟩
theorem is_cell {w : World} {g : Nat} {l : List Nat} {t : TypeId} (h : w.heap[g]? = some (.cells (Is l).toArray t (0, 0))) {k : Nat} (hk : k < l.length) : w.cell? ⟨g, k, none⟩ = some (.int .i64 (l.getD k 0 : Nat)) := by
  rw [Lib.cell_of_heap h]
  simp [Is, List.getD, List.getElem?_eq_getElem hk]
def keyA : ByteArray := ⟨#[97]⟩
theorem made_a : makeN [keyA] 8 = [15] := by decide +kernel
theorem has_a : hasB [15] keyA = true := by decide +kernel
theorem strs_one (w : World) (s : ByteArray) (e : TypeId) : StrsIn (w.alloc (.cells #[.string s] e)) (some ⟨w.heap.size, 0, none⟩) [s] := by
  intro _
  refine ⟨w.heap.size, 0, rfl, fun i hi => ?_⟩
  have hh := heap_alloc_new w (.cells #[.string s] e)
  obtain rfl : i = 0 := by simpa using hi
  rw [Lib.cell_of_heap hh]
  simp
set_option maxRecDepth 8000 in
set_option maxHeartbeats 1000000 in
theorem alive_any (w : World) : Calls Try.prog 12 #[] w fun e w' => e = .returned (.bool true) ∧ Below w.heap.size w w' := by
  have HS : Hid (StrsIn (w.alloc (.cells #[.string ⟨#[97]⟩] 9)) (some ⟨w.heap.size, 0, none⟩) [keyA]) := strs_one w keyA 9
  go_enter Try.func12, Try.ntmps12
  go_wp2_with fail
  refine (Make_ok (some ⟨w.heap.size, 0, none⟩) 1 1 8 [keyA] _ rfl HS.out (by decide) (by decide +kernel) (by decide) (by decide) (by decide)).mono ?_
  rintro e w1 ⟨g, rfl, hf⟩
  rw [made_a] at hf
  have c0 : w1.cell? ⟨g, 0, none⟩ = some (.int .u8 15) := by rw [Lib.cell_of_heap hf.blk]; rfl
  have HB1 : Hid (Below w.heap.size w w1) := below_bt (below_alloc _ _) hf.below
  have HI : Hid (BIn w1 (some ⟨g, 0, none⟩) [15]) := bin_row hf.blk hf.lt
  clear hf
  go_wp2_with fail
  refine (Has_ok (some ⟨g, 0, none⟩) 1 1 [15] ⟨#[97]⟩ _ rfl HI.out (by decide) (by decide) (by decide) true has_a).mono ?_
  rintro e w2 ⟨rfl, hb2⟩
  have c1 : w2.cell? ⟨g, 0, none⟩ = some (.int .u8 15) := (hb2.cell (World.block_lt_of_cell? _ _ c0)).trans c0
  have HB2 : Hid (Below w.heap.size w w2) := below_bt HB1.out hb2
  clear hb2 c0
  go_wp2
  go_ret
  exact ⟨rfl, HB2.out⟩
end Go.Proofs.Ytidjgilipffdpaa
namespace Go.Proofs.Ytidjgilipffdpaa
open Go.RowKit Go.WideShapes

theorem info9 : (Try.prog.info? 9).map (fun i => (i.zero, i.size, i.bytes)) = some (some (.string ByteArray.empty), 1, 16) := by kernel_rfl
def Ss (l : List ByteArray) : List Value := l.map fun s => Value.string s
theorem Ss_len (l : List ByteArray) : (Ss l).length = l.length := by simp [Ss]
theorem Ss_app (a b : List ByteArray) : Ss (a ++ b) = Ss a ++ Ss b := by simp [Ss]
theorem Ss_one (l : List ByteArray) : ∀ u ∈ Ss l, u.oneCell' = true := by
  intro u hu
  simp only [Ss, List.mem_map] at hu
  obtain ⟨b, _, rfl⟩ := hu
  rfl
theorem run_append_strs (w : World) (base : Nat) (ty : TypeId) (v : Value) (l l' : List ByteArray) (p : Option Addr) (c : Nat) (hown : w.ownsRow base 9 1 v l.length (Ss l)) (hin : StrsIn w p l') (hp : p = none → c = 0)
    (hlen : l.length + l'.length ≤ 100000) (hbase : base ≤ w.heap.size) :
    ∃ v' w', (Builtin.append_ #[32, 32] ty #[v, .slice p l'.length c]).run Try.prog w = .ok v' w' ∧ w'.ownsRow base 9 1 v' (l ++ l').length (Ss (l ++ l')) ∧ w.grownBy w' v.ownBlock := by
  obtain ⟨i0, hi, hz0, hz1, hz2⟩ := info_parts info9
  have hmax : l.length + l'.length ≤ maxLen := by unfold maxLen; omega
  cases p with
  | none =>
    obtain rfl : l' = [] := by
      cases l' with
      | nil => rfl
      | cons y ys => obtain ⟨b, o, e, _⟩ := hin (by simp); cases e
    obtain rfl := hp rfl
    exact ⟨v, w, run_append_owned_none (P := Try.prog) w base 32 ty 9 i0 1 Try.underlying32 hi v l.length (Ss l) hown, by simpa using hown, ⟨rfl, rfl, rfl, Nat.le_refl _, fun _ _ _ => rfl⟩⟩
  | some ad =>
    have hc : ∀ j u, (Ss l')[j]? = some u → w.cell? (ad.add j) = some u := by
      intro j u hu
      have hj : j < l'.length := by
        rcases Nat.lt_or_ge j l'.length with h | h
        · exact h
        · simp [Ss, List.getElem?_eq_none h] at hu
      obtain ⟨b, o, e, hcell⟩ := hin (by omega)
      simp at e
      subst e
      rw [add_plain, hcell j hj]
      simp [Ss, List.getElem?_eq_getElem hj] at hu
      simp [List.getD, List.getElem?_eq_getElem hj, ← hu]
    obtain ⟨v', w', h1, h2, h3, _⟩ := run_append_own (P := Try.prog) w base 32 ty 9 i0 (.string ByteArray.empty) 1 16 Try.underlying32 hi hz0 hz1 hz2 rfl (by decide) v l.length (Ss l) hown ad l'.length c (Ss l') (by simp [Ss]) hc (Ss_one l') hmax (by omega) hbase
    exact ⟨v', w', h1, by simpa [Ss_app] using h2, h3⟩
theorem wpList_append_strs (w : World) {ops : Array Oper} {rest : List Oper} {o : Oper} {a : Act} {Q : Exit → Act → World → Prop} (hgd : o.guard = none) (s x : Operand)
    (ho : o.op = .call { callee := .builtin .append, args := #[s, x], argTypes := #[32, 32] }) (base : Nat) (v : Value) (l l' : List ByteArray) (p : Option Addr) (m c : Nat) (hs : a.eval s = v) (hx : a.eval x = .slice p m c) (hm : m = l'.length)
    (hown : w.ownsRow base 9 1 v l.length (Ss l)) (hin : StrsIn w p l') (hp : p = none → c = 0) (hlen : l.length + l'.length ≤ 100000) (hbase : base ≤ w.heap.size)
    (h : ∀ v' w', w'.ownsRow base 9 1 v' (l ++ l').length (Ss (l ++ l')) → w.grownBy w' v.ownBlock → wpList Try.prog ops Q rest (a.put o.dst v') w') : wpList Try.prog ops Q (o :: rest) a w := by
  subst hm
  refine wpList_plain hgd fun K hK => ?_
  obtain ⟨v', w', hr, h2, h3⟩ := run_append_strs w base o.type v l l' p c hown hin hp hlen hbase
  unfold Oper.wp execOp
  simp only [ho, resolve, invoke, builtin, Sem.run_bind, Sem.run_pure, Result.andThen_ok, List.map_toArray, List.map_cons, List.map_nil, hs, hx, hr]
  exact hK _ _ (h v' w' h2 h3)
theorem own_strs {w : World} {base : Nat} {v : Value} {l : List ByteArray} (h : w.ownsRow base 9 1 v l.length (Ss l)) : ∃ q c, v = .slice q l.length c ∧ StrsIn w q l := by
  rcases h.2 with ⟨hv, hn⟩ | ⟨g, cap, cur, hv, hb, hg, hle, hmax, hsz, htk⟩
  · exact ⟨none, 0, by rw [hv, hn], fun h0 => by omega⟩
  · refine ⟨some ⟨g, 0, none⟩, cap, hv, fun _ => ⟨g, 0, rfl, fun i hi => ?_⟩⟩
    subst hv
    have := h.cells rfl i (.string (l.getD i ByteArray.empty)) (by simp [Ss, List.getD, List.getElem?_eq_getElem hi])
    rw [add_plain] at this
    exact this
theorem longB_app (a b : List ByteArray) : longB (a ++ b) = (longB a || longB b) := by unfold longB; rw [List.any_append]
/-- Two lists of at most 300 keys put together in either order. -/
theorem makeE_swap {a b : List ByteArray} (ha : a.length ≤ 300) (hb : b.length ≤ 300) (z : Int) : (makeE (a ++ b) z = 0 ↔ makeE (b ++ a) z = 0) := by
  constructor
  · intro h
    obtain ⟨_, h2, h3, h4, h5⟩ := makeE_ok h
    exact makeE_is (by simp; omega) (by rw [longB_app, Bool.or_comm, ← longB_app]; exact h2) h3 h4 h5
  · intro h
    obtain ⟨_, h2, h3, h4, h5⟩ := makeE_ok h
    exact makeE_is (by simp; omega) (by rw [longB_app, Bool.or_comm, ← longB_app]; exact h2) h3 h4 h5
theorem makeE_both {a b : List ByteArray} (ha : a.length ≤ 300) (hb : b.length ≤ 300) {z : Int} (h1 : makeE a z = 0) (h2 : makeE b z = 0) : makeE (a ++ b) z = 0 := by
  obtain ⟨_, h2', h3, h4, h5⟩ := makeE_ok h1
  obtain ⟨_, h2'', _, _, _⟩ := makeE_ok h2
  exact makeE_is (by simp; omega) (by rw [longB_app, h2', h2'']; rfl) h3 h4 h5
end Go.Proofs.Ytidjgilipffdpaa
namespace Go.Proofs.Ytidjgilipffdpaa
open Go.RowKit Go.WideShapes

theorem row_set {w : World} {g k v : Nat} {xs : List Nat} (h : w.heap[g]? = some (.cells (Bs xs).toArray 5 (0, 0))) : (w.setCell ⟨g, k, none⟩ (.int .u8 (v : Int))).heap[g]? = some (.cells (Bs (xs.set k v)).toArray 5 (0, 0)) := by
  rw [setCell_eq_setRow w g k _ 5 _ _ h]
  have e := setRow_heap w g _ ((Bs xs).toArray.setIfInBounds k (.int .u8 (v : Int))) 5 (0, 0) h
  rw [e, ← getD_set_bs]
  simp
theorem row_other {w : World} {g k g' : Nat} {v : Value} (hne : g' ≠ g) : (w.setCell ⟨g, k, none⟩ v).heap[g']? = w.heap[g']? := heap_setCell_other w ⟨g, k, none⟩ g' v hne
theorem row_cell {w : World} {g k : Nat} {xs : List Nat} (h : w.heap[g]? = some (.cells (Bs xs).toArray 5 (0, 0))) (hk : k < xs.length) : w.cell? ⟨g, k, none⟩ = some (.int .u8 (xs.getD k 0 : Nat)) := by
  rw [Lib.cell_of_heap h]
  simp [Bs, List.getD, List.getElem?_eq_getElem hk]
theorem getD_set_same {xs : List Nat} {k v : Nat} (hk : k < xs.length) : (xs.set k v).getD k 0 = v := by
  rw [List.getD_eq_getElem?_getD, List.getElem?_set_self hk]; rfl
theorem getD_set_diff {xs : List Nat} {k j v : Nat} (h : j ≠ k) : (xs.set k v).getD j 0 = xs.getD j 0 := by
  rw [List.getD_eq_getElem?_getD, List.getElem?_set_ne (fun e => h e.symm), ← List.getD_eq_getElem?_getD]
theorem set_lt {xs : List Nat} {k v : Nat} (h : ∀ c ∈ xs, c < 256) (hv : v < 256) : ∀ c ∈ xs.set k v, c < 256 := by
  intro c hc
  rcases List.mem_or_eq_of_mem_set hc with h1 | rfl
  · exact h c h1
  · exact hv
/-- What the k-th byte of both is. -/
def orN (xs ys : List Nat) (j : Nat) : Nat := if j < ys.length then xs.getD j 0 ||| ys.getD j 0 else xs.getD j 0
theorem orN_lt {xs ys : List Nat} (hx : ∀ c ∈ xs, c < 256) (hy : ∀ c ∈ ys, c < 256) (j : Nat) : orN xs ys j < 256 := by
  unfold orN
  split
  · exact Nat.or_lt_two_pow (n := 8) (getD_lt hx j) (getD_lt hy j)
  · exact getD_lt hx j
/-- The three rows of SieveBits: of zeros, of 255 up to k, of both up to k. -/
structure Tri (w0 w : World) (g1 g2 g3 n k : Nat) (xs ys A C : List Nat) : Prop where
  z : w.heap[g1]? = some (.cells (Bs (List.replicate n 0)).toArray 5 (0, 0))
  f : w.heap[g2]? = some (.cells (Bs A).toArray 5 (0, 0))
  b : w.heap[g3]? = some (.cells (Bs C).toArray 5 (0, 0))
  la : A.length = n
  lc : C.length = n
  fa : ∀ j, j < k → A.getD j 0 = 255
  fc : ∀ j, j < k → C.getD j 0 = orN xs ys j
  ta : ∀ c ∈ A, c < 256
  tc : ∀ c ∈ C, c < 256
  below : Below w0.heap.size w0 w
  n1 : w0.heap.size ≤ g1
  n2 : w0.heap.size ≤ g2
  n3 : w0.heap.size ≤ g3
  d12 : g1 ≠ g2
  d13 : g1 ≠ g3
  d23 : g2 ≠ g3
theorem Tri.step {w0 w : World} {g1 g2 g3 n k : Nat} {xs ys A C : List Nat} (h : Tri w0 w g1 g2 g3 n k xs ys A C) (hk : k < n) (x : Nat) (hx : x < 256) (he : x = orN xs ys k) {w' : World}
    (e1 : ∀ g, g ≠ g2 → g ≠ g3 → w'.heap[g]? = w.heap[g]?) (e2 : w'.heap[g2]? = some (.cells (Bs (A.set k 255)).toArray 5 (0, 0))) (e3 : w'.heap[g3]? = some (.cells (Bs (C.set k x)).toArray 5 (0, 0))) (hb : Below w0.heap.size w0 w') :
    Tri w0 w' g1 g2 g3 n (k + 1) xs ys (A.set k 255) (C.set k x) := by
  refine ⟨(e1 g1 h.d12 h.d13).trans h.z, e2, e3, by rw [List.length_set]; exact h.la, by rw [List.length_set]; exact h.lc, fun j hj => ?_, fun j hj => ?_, set_lt h.ta (by decide), set_lt h.tc hx, hb, h.n1, h.n2, h.n3, h.d12, h.d13, h.d23⟩
  · by_cases e : j = k
    · subst e; exact getD_set_same (by rw [h.la]; exact hk)
    · rw [getD_set_diff e]; exact h.fa j (by omega)
  · by_cases e : j = k
    · subst e; rw [getD_set_same (by rw [h.lc]; exact hk)]; exact he
    · rw [getD_set_diff e]; exact h.fc j (by omega)
theorem Tri.two {w0 w : World} {g1 g2 g3 n k : Nat} {xs ys A C : List Nat} (h : Tri w0 w g1 g2 g3 n k xs ys A C) (hk : k < n) (x : Nat) (hx : x < 256) (he : x = orN xs ys k) :
    Tri w0 ((w.setCell ⟨g2, k, none⟩ (.int .u8 255)).setCell ⟨g3, k, none⟩ (.int .u8 (x : Int))) g1 g2 g3 n (k + 1) xs ys (A.set k 255) (C.set k x) := by
  refine h.step hk x hx he (fun g e2 e3 => ?_) ?_ ?_ ?_
  · rw [row_other e3, row_other e2]
  · rw [row_other h.d23]
    exact row_set (v := 255) h.f
  · exact row_set ((row_other h.d23.symm).trans h.b)
  · exact (h.below.setCell (p := ⟨g2, k, none⟩) h.n2 _).setCell (p := ⟨g3, k, none⟩) h.n3 _
theorem Tri.three {w0 w : World} {g1 g2 g3 n k : Nat} {xs ys A C : List Nat} (h : Tri w0 w g1 g2 g3 n k xs ys A C) (hk : k < n) (y x : Nat) (hx : x < 256) (he : x = orN xs ys k) :
    Tri w0 (((w.setCell ⟨g2, k, none⟩ (.int .u8 255)).setCell ⟨g3, k, none⟩ (.int .u8 (y : Int))).setCell ⟨g3, k, none⟩ (.int .u8 (x : Int))) g1 g2 g3 n (k + 1) xs ys (A.set k 255) (C.set k x) := by
  refine h.step hk x hx he (fun g e2 e3 => ?_) ?_ ?_ ?_
  · rw [row_other e3, row_other e3, row_other e2]
  · rw [row_other h.d23, row_other h.d23]
    exact row_set (v := 255) h.f
  · have e := row_set (k := k) (v := x) (row_set (k := k) (v := y) ((row_other (k := k) (v := .int .u8 255) h.d23.symm).trans h.b))
    rw [List.set_set] at e
    exact e
  · exact ((h.below.setCell (p := ⟨g2, k, none⟩) h.n2 _).setCell (p := ⟨g3, k, none⟩) h.n3 _).setCell (p := ⟨g3, k, none⟩) h.n3 _
theorem Tri.drew {w0 w : World} {g1 g2 g3 n k : Nat} {xs ys A C : List Nat} (h : Tri w0 w g1 g2 g3 n k xs ys A C) : Tri w0 w.drew g1 g2 g3 n k xs ys A C := ⟨h.z, h.f, h.b, h.la, h.lc, h.fa, h.fc, h.ta, h.tc, h.below.drew, h.n1, h.n2, h.n3, h.d12, h.d13, h.d23⟩
theorem Tri.full {w0 w : World} {g1 g2 g3 n : Nat} {xs ys A C : List Nat} (h : Tri w0 w g1 g2 g3 n n xs ys A C) : A = List.replicate n 255 :=
  nums_ext (by rw [h.la]; simp) (fun i hi => by rw [h.fa i (by rw [← h.la]; exact hi)]; rw [h.la] at hi; simp [List.getD, hi])
theorem Tri.more {w0 w : World} {g1 g2 g3 n : Nat} {xs ys A C : List Nat} (h : Tri w0 w g1 g2 g3 n n xs ys A C) (hn : xs.length = n) (s : ByteArray) (hb : hasB xs s = true) : hasB C s = true :=
  has_more (by rw [h.lc, hn]) (fun i hi => by
    rw [h.fc i (by omega)]
    unfold orN
    split
    · exact ⟨_, rfl⟩
    · exact ⟨0, by simp⟩) s hb
theorem three_at (w : World) (o : Obj) (g : Nat) (h1 : w.heap.size ≤ g) (h2 : g ≤ w.heap.size + 2) : (((w.alloc o).alloc o).alloc o).drew.heap[g]? = some o := by
  show (((w.alloc o).alloc o).alloc o).heap[g]? = some o
  have e : g = w.heap.size ∨ g = w.heap.size + 1 ∨ g = w.heap.size + 2 := by omega
  rcases e with rfl | rfl | rfl
  · rw [heap_alloc_old _ _ (by simp; omega), heap_alloc_old _ _ (by simp), heap_alloc_new]
  · rw [heap_alloc_old _ _ (by simp)]
    have := heap_alloc_new (w.alloc o) o
    simpa using this
  · have := heap_alloc_new ((w.alloc o).alloc o) o
    simpa using this
theorem tri0 (w : World) (Z : Array Value) (n g1 g2 g3 : Nat) (xs ys : List Nat) (hZ : (Bs (List.replicate n 0)).toArray = Z) (a1 : w.heap.size ≤ g1 ∧ g1 ≤ w.heap.size + 2) (a2 : w.heap.size ≤ g2 ∧ g2 ≤ w.heap.size + 2) (a3 : w.heap.size ≤ g3 ∧ g3 ≤ w.heap.size + 2) (d1 : g1 ≠ g2) (d2 : g1 ≠ g3) (d3 : g2 ≠ g3) :
    Tri w (((w.alloc (.cells Z 5)).alloc (.cells Z 5)).alloc (.cells Z 5)).drew g1 g2 g3 n 0 xs ys (List.replicate n 0) (List.replicate n 0) := by
  subst hZ
  have hz : ∀ c ∈ List.replicate n 0, c < 256 := by intro c hc; have := List.eq_of_mem_replicate hc; omega
  exact ⟨three_at _ _ _ a1.1 a1.2, three_at _ _ _ a2.1 a2.2, three_at _ _ _ a3.1 a3.2, by simp, by simp, fun j hj => absurd hj (by omega), fun j hj => absurd hj (by omega), hz, hz,
    (((((Below.refl _ _).alloc (Nat.le_refl _) _).alloc (by simp) _).alloc (by simp; omega) _)).drew, a1.1, a2.1, a3.1, d1, d2, d3⟩
end Go.Proofs.Ytidjgilipffdpaa
namespace Go.Proofs.Ytidjgilipffdpaa.sieveMore
open Go.ChangeShapes Go.WideShapes Go.ChangeAt Go.RowKit
open Go.ChangeMaps (open_string shut_string)
set_option linter.unusedVariables false

theorem own : ownKnob Try.prog.godebug = none := by kernel_rfl
theorem laidOut : laidOutB Try.prog = true := by kernel_rfl

theorem yes_of {w w' : World} {v : Value} {l : List ByteArray} {z : Int} (h : Made w w' v l z) (e : makeE l z = 0) : ∃ (m g : Nat), z = m ∧ v = .slice (some ⟨g, 0, none⟩) (m / 8) (m / 8) ∧ w'.heap[g]? = some (.cells (Bs (makeN l m)).toArray 5 (0, 0)) := by
  obtain ⟨g, e1, h1, _⟩ := h.yes e
  have := makeE_ok e
  exact ⟨z.toNat, g, by omega, e1, h1⟩
set_option maxRecDepth 20000 in
set_option maxHeartbeats 8000000 in
theorem walk_main (q1 q2 : Option Addr) (n1 c1 n2 c2 : Nat) (l1 l2 : List ByteArray) (z : Int) (w : World) (hn1 : n1 = l1.length) (hl1 : StrsIn w q1 l1) (hc1 : q1 = none → c1 = 0) (hn2 : n2 = l2.length) (hl2 : StrsIn w q2 l2) (hc2 : q2 = none → c2 = 0) (hN1 : (n1 : Int) ≤ 300) (hN2 : (n2 : Int) ≤ 300) :
    Calls Try.prog 6 #[.slice q1 n1 c1, .slice q2 n2 c2, .int .i64 z] w fun e w' => e = .returned (.bool true) ∧ Below w.heap.size w w' := by
  have HL : Hid ((n1 = l1.length ∧ StrsIn w q1 l1 ∧ (q1 = none → c1 = 0)) ∧ (n2 = l2.length ∧ StrsIn w q2 l2 ∧ (q2 = none → c2 = 0)) ∧ l1.length ≤ 300 ∧ l2.length ≤ 300) := ⟨⟨hn1, hl1, hc1⟩, ⟨hn2, hl2, hc2⟩, by omega, by omega⟩
  obtain ⟨E1, hE1⟩ : ∃ E, makeE l1 z = E := ⟨_, rfl⟩
  obtain ⟨E2, hE2⟩ : ∃ E, makeE l2 z = E := ⟨_, rfl⟩
  obtain ⟨E3, hE3⟩ : ∃ E, makeE (l1 ++ l2) z = E := ⟨_, rfl⟩
  obtain ⟨E4, hE4⟩ : ∃ E, makeE (l2 ++ l1) z = E := ⟨_, rfl⟩
  have HE : Hid (makeE l1 z = E1 ∧ makeE l2 z = E2 ∧ makeE (l1 ++ l2) z = E3 ∧ makeE (l2 ++ l1) z = E4) := ⟨hE1, hE2, hE3, hE4⟩
  clear hn1 hl1 hc1 hn2 hl2 hc2 hE1 hE2 hE3 hE4
  go_enter Try.func6, Try.ntmps6
  go_wp2_with fail
  refine (alive_any _).mono ?_
  rintro e w1 ⟨rfl, hb1⟩
  have HB1 : Hid (Below w.heap.size w w1) := hb1
  clear hb1
  go_wp2_with fail
  refine (Make_u q1 n1 c1 l1 z _ HL.out.1.1 (HL.out.1.2.1.below HB1.out) E1 HE.out.1).mono ?_
  rintro e w2 ⟨v1, rfl, hmd1⟩
  have HM1 : Hid (Made w1 w2 v1 l1 z) := hmd1
  have HB2 : Hid (Below w.heap.size w w2) := below_bt HB1.out hmd1.below
  clear hmd1
  go_wp2_with fail
  refine (Make_u q2 n2 c2 l2 z _ HL.out.2.1.1 (HL.out.2.1.2.1.below HB2.out) E2 HE.out.2.1).mono ?_
  rintro e w3 ⟨v2, rfl, hmd2⟩
  have HM2 : Hid (Made w2 w3 v2 l2 z) := hmd2
  have HB3 : Hid (Below w.heap.size w w3) := below_bt HB2.out hmd2.below
  clear hmd2
  go_wp2_with (at_builtin; refine wpList_append_strs _ rfl _ _ rfl w3.heap.size (.slice none 0 0) [] l1 q1 n1 c1 rfl rfl HL.out.1.1 (World.ownsRow_nil _ _ _ _) (HL.out.1.2.1.below HB3.out) HL.out.1.2.2 (by have := HL.out.2.2; simp; omega) (Nat.le_refl _) ?_)
  intro x1 w4 hown4 hgr4
  have HO4 : Hid (w4.ownsRow w3.heap.size 9 1 x1 l1.length (Ss l1)) := hown4
  have HB4 : Hid (Below w3.heap.size w3 w4) := (Below.refl _ _).grown hgr4 (Nat.le_refl _) (fun k hk => by cases hk)
  clear hown4 hgr4
  go_wp2_with (at_builtin; refine wpList_append_strs _ rfl _ _ rfl w3.heap.size x1 l1 l2 q2 n2 c2 rfl rfl HL.out.2.1.1 HO4.out ((HL.out.2.1.2.1.below HB3.out).below HB4.out) HL.out.2.1.2.2 (by have := HL.out.2.2; omega) HB4.out.size ?_)
  intro x2 w5 hown5 hgr5
  have HB5 : Hid (Below w3.heap.size w3 w5) := HB4.out.grown hgr5 HB4.out.size (fun k hk => (HO4.out.lt k hk).1)
  rw [← List.length_append] at hown5
  obtain ⟨q5, c5, rfl, hs5⟩ := own_strs hown5
  have HS5 : Hid (StrsIn w5 q5 (l1 ++ l2)) := hs5
  clear hown5 hgr5 hs5 HO4 HB4
  obtain ⟨n5, hn5⟩ : ∃ n, (l1 ++ l2).length = n := ⟨_, rfl⟩
  rw [hn5]
  have HN5 : Hid ((l1 ++ l2).length = n5) := hn5
  clear hn5
  go_wp2_with fail
  refine (Make_u q5 n5 c5 (l1 ++ l2) z _ HN5.out.symm HS5.out E3 HE.out.2.2.1).mono ?_
  rintro e w6 ⟨v3, rfl, hmd3⟩
  have HM3 : Hid (Made w5 w6 v3 (l1 ++ l2) z) := hmd3
  have HB6 : Hid (Below w3.heap.size w3 w6) := below_bt HB5.out hmd3.below
  clear hmd3
  go_wp2_with (at_builtin; refine wpList_append_strs _ rfl _ _ rfl w6.heap.size (.slice none 0 0) [] l2 q2 n2 c2 rfl rfl HL.out.2.1.1 (World.ownsRow_nil _ _ _ _) ((HL.out.2.1.2.1.below HB3.out).below HB6.out) HL.out.2.1.2.2 (by have := HL.out.2.2; simp; omega) (Nat.le_refl _) ?_)
  intro x3 w7 hown7 hgr7
  have HO7 : Hid (w7.ownsRow w6.heap.size 9 1 x3 l2.length (Ss l2)) := hown7
  have HB7 : Hid (Below w6.heap.size w6 w7) := (Below.refl _ _).grown hgr7 (Nat.le_refl _) (fun k hk => by cases hk)
  clear hown7 hgr7
  go_wp2_with (at_builtin; refine wpList_append_strs _ rfl _ _ rfl w6.heap.size x3 l2 l1 q1 n1 c1 rfl rfl HL.out.1.1 HO7.out (((HL.out.1.2.1.below HB3.out).below HB6.out).below HB7.out) HL.out.1.2.2 (by have := HL.out.2.2; omega) HB7.out.size ?_)
  intro x4 w8 hown8 hgr8
  have HB8 : Hid (Below w6.heap.size w6 w8) := HB7.out.grown hgr8 HB7.out.size (fun k hk => (HO7.out.lt k hk).1)
  rw [← List.length_append] at hown8
  obtain ⟨q8, c8, rfl, hs8⟩ := own_strs hown8
  have HS8 : Hid (StrsIn w8 q8 (l2 ++ l1)) := hs8
  clear hown8 hgr8 hs8 HO7 HB7
  obtain ⟨n8, hn8⟩ : ∃ n, (l2 ++ l1).length = n := ⟨_, rfl⟩
  rw [hn8]
  have HN8 : Hid ((l2 ++ l1).length = n8) := hn8
  clear hn8
  go_wp2_with fail
  refine (Make_u q8 n8 c8 (l2 ++ l1) z _ HN8.out.symm HS8.out E4 HE.out.2.2.2).mono ?_
  rintro e w9 ⟨v4, rfl, hmd4⟩
  have HM4 : Hid (Made w8 w9 v4 (l2 ++ l1) z) := hmd4
  have HB9 : Hid (Below w6.heap.size w6 w9) := below_bt HB8.out hmd4.below
  have HBall : Hid (Below w.heap.size w w9) := below_bt HB3.out (below_bt HB6.out HB9.out)
  clear hmd4
  by_cases h12 : E1 = 0 ∧ E2 = 0
  · obtain ⟨rfl, rfl⟩ := h12
    have e3 : E3 = 0 := by rw [← HE.out.2.2.1]; exact makeE_both HL.out.2.2.1 HL.out.2.2.2 HE.out.1 HE.out.2.1
    have e4 : E4 = 0 := by rw [← HE.out.2.2.2]; exact makeE_both HL.out.2.2.2 HL.out.2.2.1 HE.out.2.1 HE.out.1
    subst e3 e4
    obtain ⟨m, g1, rfl, rfl, hk1⟩ := yes_of HM1.out HE.out.1
    obtain ⟨m', g2, em, rfl, hk2⟩ := yes_of HM2.out HE.out.2.1
    obtain rfl : m' = m := by omega
    obtain ⟨m'', g3, em', rfl, hk3⟩ := yes_of HM3.out HE.out.2.2.1
    obtain rfl : m'' = m' := by omega
    obtain ⟨m', g4, em'', rfl, hk4⟩ := yes_of HM4.out HE.out.2.2.2
    obtain rfl : m'' = m' := by omega
    obtain ⟨_, _, z3, z4, z5⟩ := makeE_ok HE.out.1
    rw [makeN_swap l2 l1 m'' (by omega) (by omega)] at hk4
    have HAp : Hid (∀ i, (makeN (l1 ++ l2) m'').getD i 0 = (makeN l1 m'').getD i 0 ||| (makeN l2 m'').getD i 0) := fun i => makeN_app l1 l2 m'' (by omega) (by omega) i
    obtain ⟨L, hLL⟩ : ∃ L, m'' / 8 = L := ⟨_, rfl⟩
    rw [hLL]
    have HLen : Hid ((makeN l1 m'').length = L ∧ (makeN l2 m'').length = L ∧ (makeN (l1 ++ l2) m'').length = L) := ⟨by rw [makeN_len, hLL], by rw [makeN_len, hLL], by rw [makeN_len, hLL]⟩
    have hL2 : (L : Int) ≤ 8192 := by omega
    have k1 : w9.heap[g1]? = some (.cells (Bs (makeN l1 m'')).toArray 5 (0, 0)) := (HB9.out.block _ (Nat.lt_of_lt_of_le (Nat.lt_of_lt_of_le (lt_heap hk1) HM2.out.below.size) HB6.out.size)).trans ((HB6.out.block _ (Nat.lt_of_lt_of_le (lt_heap hk1) HM2.out.below.size)).trans ((HM2.out.below.block _ (lt_heap hk1)).trans hk1))
    have k2 : w9.heap[g2]? = some (.cells (Bs (makeN l2 m'')).toArray 5 (0, 0)) := (HB9.out.block _ (Nat.lt_of_lt_of_le (lt_heap hk2) HB6.out.size)).trans ((HB6.out.block _ (lt_heap hk2)).trans hk2)
    have k3 : w9.heap[g3]? = some (.cells (Bs (makeN (l1 ++ l2) m'')).toArray 5 (0, 0)) := (HB9.out.block _ (lt_heap hk3)).trans hk3
    have HK : Hid (w9.heap[g1]? = some (.cells (Bs (makeN l1 m'')).toArray 5 (0, 0)) ∧ w9.heap[g2]? = some (.cells (Bs (makeN l2 m'')).toArray 5 (0, 0)) ∧ w9.heap[g3]? = some (.cells (Bs (makeN (l1 ++ l2) m'')).toArray 5 (0, 0))) := ⟨k1, k2, k3⟩
    have cv3 : (convert 26 9 (.slice (some ⟨g3, 0, none⟩) L L)).run Try.prog w9 = .ok (.string (strOf (makeN (l1 ++ l2) m''))) w9 := bin_conv Try.underlying26 Try.underlying5 Try.underlying9 (bin_row k3 (makeN_lt _ _)) HLen.out.2.2.symm L
    have cv4 : (convert 26 9 (.slice (some ⟨g4, 0, none⟩) L L)).run Try.prog w9 = .ok (.string (strOf (makeN (l1 ++ l2) m''))) w9 := bin_conv Try.underlying26 Try.underlying5 Try.underlying9 (bin_row hk4 (makeN_lt _ _)) HLen.out.2.2.symm L
    obtain ⟨S, hS⟩ : ∃ S, strOf (makeN (l1 ++ l2) m'') = S := ⟨_, rfl⟩
    rw [hS] at cv3 cv4
    clear hk1 hk2 hk3 hk4 k1 k2 k3 HM1 HM2 HM3 HM4 HE hLL em em' em'' z3 z4 z5 hS
    go_wp2
    go_loopw [16] (fun i wr => ∃ k : Nat, k ≤ L ∧ i = .int .i64 k ∧ Below w9.heap.size w9 wr) (fun i _ => L - (intOf i).toNat)
    case atStart => exact ⟨0, by omega, rfl, Below.refl _ _⟩
    case round =>
      obtain ⟨k, hk, rfl, hbr⟩ := hrel
      have HBR : Hid (Below w9.heap.size w9 wr) := hbr
      clear hbr
      by_cases hkn : k < L
      · have hkI : (k : Int) < (L : Int) := by omega
        have c1 := row_cell ((HBR.out.block _ (lt_heap HK.out.1)).trans HK.out.1) (k := k) (by rw [HLen.out.1]; exact hkn)
        have c2 := row_cell ((HBR.out.block _ (lt_heap HK.out.2.1)).trans HK.out.2.1) (k := k) (by rw [HLen.out.2.1]; exact hkn)
        have c3 := row_cell ((HBR.out.block _ (lt_heap HK.out.2.2)).trans HK.out.2.2) (k := k) (by rw [HLen.out.2.2]; exact hkn)
        have hor := or_u8 _ _ (getD_lt (makeN_lt l1 m'') k) (getD_lt (makeN_lt l2 m'') k)
        rw [← HAp.out k] at hor
        generalize (makeN l1 m'').getD k 0 = a at *
        generalize (makeN l2 m'').getD k 0 = b at *
        generalize (makeN (l1 ++ l2) m'').getD k 0 = x at *
        have HKn : Hid (k < L) := hkn
        clear hkn cv3 cv4
        go_wp2
        go_quiet (fail)
        go_wp2
        go_roundw
        case rel => exact ⟨k + 1, by have := HKn.out; omega, by go_num, below_bt HBR.out (below_dr _ _)⟩
        case measure => have := HKn.out; simp [intOf]; omega
      · obtain rfl : k = L := by omega
        go_wp2
        go_ret
        exact ⟨rfl, below_bt HBall.out HBR.out⟩
  · have g12 : (((E1 : Int) != 0) || ((E2 : Int) != 0)) = true := by simp; omega
    have HW : Hid (E3 = 0 ↔ E4 = 0) := by have := makeE_swap HL.out.2.2.1 HL.out.2.2.2 z; rw [HE.out.2.2.1, HE.out.2.2.2] at this; exact this
    obtain ⟨r, hr3⟩ : ∃ r, ((E3 : Int) != 0) = r := ⟨_, rfl⟩
    have hr4 : ((E4 : Int) != 0) = r := by
      rw [← hr3]
      have := HW.out
      by_cases h : E3 = 0
      · rw [this.1 h, h]
      · have h' : E4 ≠ 0 := fun e => h (this.2 e)
        have a1 : ((E3 : Int) != 0) = true := by simp; omega
        have a2 : ((E4 : Int) != 0) = true := by simp; omega
        rw [a1, a2]
    clear h12 HM1 HM2 HM3 HM4
    by_cases h1 : E1 = 0
    · have g1 : ((E1 : Int) != 0) = false := by simp; omega
      have g2 : ((E2 : Int) != 0) = true := by rw [g1] at g12; simpa using g12
      clear g12 h1
      go_wp2
      go_ret
      exact ⟨by simp, HBall.out⟩
    · have g1 : ((E1 : Int) != 0) = true := by simp; omega
      clear g12 h1
      go_wp2
      go_ret
      exact ⟨by simp, HBall.out⟩
theorem walk (v : Value) (l : List ByteArray) (v' : Value) (l' : List ByteArray) (z : Int) (w : World) (h : StrRow w v l) (h' : StrRow w v' l') (wz : (Lit.int .i64 z).wf = true) :
    Calls Try.prog 6 #[v, v', .int .i64 z] w fun e w' => e = .returned (.bool true) ∧ Below w.heap.size w w' := by
  obtain ⟨q, c, rfl, hl, _, _, hc⟩ := h.lies
  obtain ⟨q', c', rfl, hl', _, _, hc'⟩ := h'.lies
  by_cases h1 : l.length ≤ 300 ∧ l'.length ≤ 300
  · exact walk_main q q' l.length c l'.length c' l l' z w rfl hl hc rfl hl' hc' (by omega) (by omega)
  · by_cases h2 : 300 < l.length
    · have g1 : decide ((300 : Int) < (l.length : Int)) = true := decide_eq_true (by omega)
      clear h1 h2 h h' hl hl'
      go_enter Try.func6, Try.ntmps6
      go_wp2_with fail
      refine (alive_any _).mono ?_
      rintro e w1 ⟨rfl, hb1⟩
      have HB1 : Hid (Below w.heap.size w w1) := hb1
      clear hb1
      go_wp2
      go_ret
      exact ⟨rfl, HB1.out⟩
    · have g1 : decide ((300 : Int) < (l.length : Int)) = false := decide_eq_false (by omega)
      have g2 : decide ((300 : Int) < (l'.length : Int)) = true := decide_eq_true (by omega)
      clear h1 h2 h h' hl hl'
      go_enter Try.func6, Try.ntmps6
      go_wp2_with fail
      refine (alive_any _).mono ?_
      rintro e w1 ⟨rfl, hb1⟩
      have HB1 : Hid (Below w.heap.size w w1) := hb1
      clear hb1
      go_wp2
      go_ret
      exact ⟨rfl, HB1.out⟩

/-! ### THE ROW's STEP -/
set_option maxRecDepth 100000 in
theorem lifted (os : Os) (started : os.Started) (H : Type) (enc : TypeId × Value → H) :
    ReturnsInHanded {} Try.checked os 6 .any (Rows.sieveMoreSpec.pre6 enc Try.prog Try.f6 Rows.sieveMoreRow.domain false) (Rows.sieveMoreSpec.post enc Try.prog Try.f6 false true false false) := by
  refine returnsInHanded_of_change (C := Try.checked) own started (by kernel_rfl) Try.func6
    (ChangeSpec.witness6 (enc := enc) (C := Try.checked) false ⟨#[], #[.slice none 0 0, .slice none 0 0, .int .i64 0], []⟩ 8 (by kernel_rfl) (by kernel_rfl) (by kernel_rfl) (by kernel_rfl)) ?_
  intro W base args ds gs before hval0 hW hcnd _
  have hval : ∀ (j : Nat) t v, Try.f6.params[j]? = some t → args[j]? = some v → Value.okWide Try.prog W .any base t v := hval0
  have hW' := hW
  obtain ⟨p, q, hA0, hV, rfl, hfz, hnd⟩ := hW
  have hA : DataW.TrodAll enc Try.prog W 0 (fun _ => true) true Try.f6.params.toList args.toList ds p := hA0
  rw [Try.params6] at hA hval
  obtain ⟨v0, vs0, d0, ds0, p0, q0, hargs, rfl, rfl, h0, r0⟩ := trodAll_cons hA
  obtain ⟨v1, vs1, d1, ds1, p1, q1, rfl, rfl, rfl, h1, r1⟩ := trodAll_cons r0
  obtain ⟨v2, vs2, d2, ds2, p2, q2, rfl, rfl, rfl, h2, r2⟩ := trodAll_cons r1
  obtain ⟨rfl, rfl, rfl⟩ := trodAll_nil r2
  obtain rfl : args = #[v0, v1, v2] := by cases args; simp_all
  obtain ⟨rfl, rfl⟩ := trodVars_none hV
  have k0 := h0
  have lt0 : ∀ x ∈ p0, x.block < W.heap.size := by obtain ⟨m, hm⟩ := k0; exact DataW.trod_lt m _ _ _ hm
  obtain ⟨qa0, la0, ca0, rfl⟩ := okWide_slice Try.underlying32 (hval 0 32 v0 rfl rfl)
  obtain ⟨fu0, hf0⟩ := h0
  obtain ⟨l0, w0⟩ := open_strs Try.underlying32 Try.underlying9 (by kernel_rfl) hf0
  have k1 := h1
  have lt1 : ∀ x ∈ p1, x.block < W.heap.size := by obtain ⟨m, hm⟩ := k1; exact DataW.trod_lt m _ _ _ hm
  obtain ⟨qa1, la1, ca1, rfl⟩ := okWide_slice Try.underlying32 (hval 1 32 v1 rfl rfl)
  obtain ⟨fu1, hf1⟩ := h1
  obtain ⟨l1, w1⟩ := open_strs Try.underlying32 Try.underlying9 (by kernel_rfl) hf1
  obtain ⟨a2, rfl, rfl, rfl, w2⟩ := open_int Try.underlying3 (hval 2 3 v2 rfl rfl) h2
  clear hA0 hval0
  refine (walk (.slice qa0 la0 ca0) l0 (.slice qa1 la1 ca1) l1 a2 W w0 w1 w2).mono fun e W' ⟨he, bel⟩ => ?_
  subst he
  exact ⟨_, rfl, _, _, _, [], _, [], hW', trodAll_mk1 (shut_bool Try.underlying4 _), (trodAll_cons_mk (Below.trod laidOut (by kernel_rfl) (of_decide_eq_true (by kernel_rfl)) k0 bel lt0) (trodAll_cons_mk (Below.trod laidOut (by kernel_rfl) (of_decide_eq_true (by kernel_rfl)) k1 bel lt1) (trodAll_cons_mk (shut_int Try.underlying3 w2) trodAll_mk0))), rfl, bel.frame _, fun h => by cases h⟩

theorem over : Rows.sieveMoreRow.holds Try.pinned (OpenSpec.ofChange Rows.sieveMoreSpec) :=
  OpenClaim.holds_of_wide 6 Try.f6 rfl rfl rfl rfl rfl rfl rfl ⟨rfl, rfl, rfl, rfl, rfl⟩ rfl rfl rfl rfl rfl (by kernel_rfl) Try.func6 (by kernel_rfl)
    (of_decide_eq_true (by kernel_rfl)) (by unfold Func.isWrapper; first | (rw [if_pos (by decide +kernel)]; kernel_rfl) | (rw [if_neg (by decide +kernel)]; exact ⟨rfl, rfl⟩))
    (fun os started H enc _ => lifted os started H enc)

theorem proved : Rows.SieveMoreSaid := over
end Go.Proofs.Ytidjgilipffdpaa.sieveMore
namespace Go.Proofs.Ytidjgilipffdpaa
theorem sieveMore_holds : Rows.SieveMoreSaid := sieveMore.proved
#print axioms sieveMore_holds
end Go.Proofs.Ytidjgilipffdpaa
