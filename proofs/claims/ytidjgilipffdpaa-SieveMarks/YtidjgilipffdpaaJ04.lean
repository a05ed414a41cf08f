/-
  Marks are places among those that are told, and the same each time, at any key and number.
-/
import Derived.Test.YtidjgilipffdpaaJ03
import Derived.WalkKit
import Derived.OpenShut
import Derived.Deep.QuietTactic
import Derived.BigQuiet
import Derived.Test.YtidjgilipffdpaaRows
import Derived.ProofKit
import Derived.ShutString
import Derived.ChangeOld
import Derived.Below
namespace Go.Proofs.Ytidjgilipffdpaa
open Go.RowKit Go.WideShapes

theorem Make_many (q : Option Addr) (n c : Nat) (z : Int) (w : World) (hN : (4096 : Int) < (n : Int)) :
    Calls Try.prog 10 #[.slice q n c, .int .i64 z] w fun e w' => e = .returned (.tuple #[.slice none 0 0, .int .i64 4]) ∧ w' = w := by
  go_enter Try.func10, Try.ntmps10
  go_wp2
  go_ret2
  exact ⟨rfl, rfl⟩
theorem Make_long (q : Option Addr) (n c : Nat) (z : Int) (l : List ByteArray) (w : World) (hn : n = l.length) (hl : StrsIn w q l) (hN : (n : Int) ≤ 4096) (hlong : longB l = true) :
    Calls Try.prog 10 #[.slice q n c, .int .i64 z] w fun e w' => e = .returned (.tuple #[.slice none 0 0, .int .i64 3]) ∧ w' = w := by
  have HC := containsFunc_any q n c l w hn hl (by omega) true hlong
  clear hn hl hlong
  go_enter Try.func10, Try.ntmps10
  go_wp2_with fail
  refine HC.mono ?_
  rintro e w1 ⟨rfl, rfl⟩
  go_wp2
  go_ret2
  exact ⟨rfl, rfl⟩
theorem Make_arg (q : Option Addr) (n c : Nat) (z : Int) (l : List ByteArray) (w : World) (hn : n = l.length) (hl : StrsIn w q l) (hN : (n : Int) ≤ 4096) (hlong : longB l = false) (hz : z < 8 ∨ 65536 < z ∨ z % 8 ≠ 0) :
    Calls Try.prog 10 #[.slice q n c, .int .i64 z] w fun e w' => e = .returned (.tuple #[.slice none 0 0, .int .i64 2]) ∧ w' = w := by
  have HC := containsFunc_any q n c l w hn hl (by omega) false hlong
  clear hn hl hlong
  by_cases h1 : z < 8
  · clear hz
    go_enter Try.func10, Try.ntmps10
    go_wp2_with fail
    refine HC.mono ?_
    rintro e w1 ⟨rfl, rfl⟩
    go_wp2
    go_ret2
    exact ⟨rfl, rfl⟩
  · by_cases h2 : 65536 < z
    · clear hz
      go_enter Try.func10, Try.ntmps10
      go_wp2_with fail
      refine HC.mono ?_
      rintro e w1 ⟨rfl, rfl⟩
      go_wp2
      go_ret2
      exact ⟨rfl, rfl⟩
    · have g1 : (z % 8 != 0) = true := by simp; omega
      have h3 : 8 ≤ z := by omega
      have h4 : z ≤ 65536 := by omega
      clear hz h1 h2
      go_enter Try.func10, Try.ntmps10
      go_wp2_with fail
      refine HC.mono ?_
      rintro e w1 ⟨rfl, rfl⟩
      go_wp2
      go_ret2
      exact ⟨rfl, rfl⟩
theorem Has_arg (p : Option Addr) (L cap : Nat) (s : ByteArray) (w : World) (h : (L : Int) < 1 ∨ (8192 : Int) < (L : Int)) :
    Calls Try.prog 11 #[.slice p L cap, .string s] w fun e w' => e = .returned (.tuple #[.bool false, .int .i64 2]) ∧ w' = w := by
  rcases h with h | h
  · go_enter Try.func11, Try.ntmps11
    go_wp2
    go_ret2
    exact ⟨rfl, rfl⟩
  · have h' : ¬ ((L : Int) < 1) := by omega
    go_enter Try.func11, Try.ntmps11
    go_wp2
    go_ret2
    exact ⟨rfl, rfl⟩
theorem Has_long (p : Option Addr) (L cap : Nat) (s : ByteArray) (w : World) (h1 : (1 : Int) ≤ (L : Int)) (h2 : (L : Int) ≤ 8192) (hs : (256 : Int) < (s.size : Int)) :
    Calls Try.prog 11 #[.slice p L cap, .string s] w fun e w' => e = .returned (.tuple #[.bool false, .int .i64 3]) ∧ w' = w := by
  have g1 : decide ((256 : Int) < (s.size : Int)) = true := decide_eq_true hs
  clear hs
  go_enter Try.func11, Try.ntmps11
  go_wp2_with fail
  refine (tooLong_any s _).mono ?_
  rintro e w2 ⟨rfl, rfl⟩
  rw [g1]
  go_wp2
  go_ret2
  exact ⟨rfl, rfl⟩
set_option maxRecDepth 8000 in
set_option maxHeartbeats 4000000 in
theorem Has_ok (p : Option Addr) (L cap : Nat) (xs : List Nat) (s : ByteArray) (w : World) (hL : L = xs.length) (hb : BIn w p xs) (h1 : (1 : Int) ≤ (L : Int)) (h2 : (L : Int) ≤ 8192) (hs : (s.size : Int) ≤ 256) (r : Bool) (hr : hasB xs s = r) :
    Calls Try.prog 11 #[.slice p L cap, .string s] w fun e w' => e = .returned (.tuple #[.bool r, .int .i64 0]) ∧ Below w.heap.size w w' := by
  have g1 : decide ((256 : Int) < (s.size : Int)) = false := decide_eq_false (by omega)
  obtain ⟨m, hm⟩ : ∃ m, 8 * L = m := ⟨_, rfl⟩
  have hmI : (8 : Int) * (L : Int) = (m : Int) := by omega
  obtain ⟨m0, e0⟩ : ∃ a, markAt s 0 % m = a := ⟨_, rfl⟩
  obtain ⟨m1, e1⟩ : ∃ a, markAt s 1 % m = a := ⟨_, rfl⟩
  obtain ⟨m2, e2⟩ : ∃ a, markAt s 2 % m = a := ⟨_, rfl⟩
  obtain ⟨m3, e3⟩ : ∃ a, markAt s 3 % m = a := ⟨_, rfl⟩
  have HM : Hid (marksN s m = [m0, m1, m2, m3]) := by show _ = _; unfold marksN; rw [e0, e1, e2, e3]
  have HMl : Hid (m0 < m ∧ m1 < m ∧ m2 < m ∧ m3 < m) := by
    have h := marksN_lt s m (by omega)
    rw [HM.out] at h
    exact ⟨h _ (by simp), h _ (by simp), h _ (by simp), h _ (by simp)⟩
  have HMk := marks_any s m
  rw [e0, e1, e2, e3] at HMk
  have HMc : Hid (∀ w : World, Calls Try.prog 18 #[.string s, .int .i64 m] w fun e w' => e = .returned (.agg #[.int .i64 m0, .int .i64 m1, .int .i64 m2, .int .i64 m3]) ∧ Below w.heap.size w w') := fun w => HMk w hs (by omega) (by omega)
  have HR : Hid ((((xs.getD (m0 / 8) 0).testBit (m0 % 8)) && (((xs.getD (m1 / 8) 0).testBit (m1 % 8)) && (((xs.getD (m2 / 8) 0).testBit (m2 % 8)) && ((xs.getD (m3 / 8) 0).testBit (m3 % 8))))) = r) := by
    show _ = _
    rw [← hr]
    unfold hasB
    rw [← hL, hm, HM.out]
    simp
  have HLk : Hid (∀ (n : Nat) (r : Bool) (w' : World), n < m → Below w.heap.size w w' → (xs.getD (n / 8) 0).testBit (n % 8) = (!r) → Calls Try.prog 21 #[.slice p L cap, .int .i64 n] w' fun e w2 => e = .returned (.bool r) ∧ w2 = w') := fun n r w' hn hbl hr => lacks_any p L cap n xs w' hL (hb.below hbl) (by omega) (by omega) r hr
  obtain ⟨b0, hb0⟩ : ∃ b, (xs.getD (m0 / 8) 0).testBit (m0 % 8) = b := ⟨_, rfl⟩
  obtain ⟨b1, hb1⟩ : ∃ b, (xs.getD (m1 / 8) 0).testBit (m1 % 8) = b := ⟨_, rfl⟩
  obtain ⟨b2, hb2⟩ : ∃ b, (xs.getD (m2 / 8) 0).testBit (m2 % 8) = b := ⟨_, rfl⟩
  obtain ⟨b3, hb3⟩ : ∃ b, (xs.getD (m3 / 8) 0).testBit (m3 % 8) = b := ⟨_, rfl⟩
  rw [hb0, hb1, hb2, hb3] at HR
  have HBs : Hid ((xs.getD (m0 / 8) 0).testBit (m0 % 8) = b0 ∧ (xs.getD (m1 / 8) 0).testBit (m1 % 8) = b1 ∧ (xs.getD (m2 / 8) 0).testBit (m2 % 8) = b2 ∧ (xs.getD (m3 / 8) 0).testBit (m3 % 8) = b3) := ⟨hb0, hb1, hb2, hb3⟩
  clear hb0 hb1 hb2 hb3 e0 e1 e2 e3 HMk hr hm hb hL HM
  have i0 : ∀ w, (Instr.index 46 (.agg #[.int .i64 m0, .int .i64 m1, .int .i64 m2, .int .i64 m3]) (.int .i64 0)).run Try.prog w = .ok (.int .i64 m0) w := fun _ => by kernel_rfl
  have i1 : ∀ w, (Instr.index 46 (.agg #[.int .i64 m0, .int .i64 m1, .int .i64 m2, .int .i64 m3]) (.int .i64 1)).run Try.prog w = .ok (.int .i64 m1) w := fun _ => by kernel_rfl
  have i2 : ∀ w, (Instr.index 46 (.agg #[.int .i64 m0, .int .i64 m1, .int .i64 m2, .int .i64 m3]) (.int .i64 2)).run Try.prog w = .ok (.int .i64 m2) w := fun _ => by kernel_rfl
  have i3 : ∀ w, (Instr.index 46 (.agg #[.int .i64 m0, .int .i64 m1, .int .i64 m2, .int .i64 m3]) (.int .i64 3)).run Try.prog w = .ok (.int .i64 m3) w := fun _ => by kernel_rfl
  go_enter Try.func11, Try.ntmps11
  go_wp2_with fail
  refine (tooLong_any s _).mono ?_
  rintro e w2 ⟨rfl, rfl⟩
  rw [g1]
  go_wp2_with fail
  refine (HMc.out _).mono ?_
  rintro e w3 ⟨rfl, hb3⟩
  have HB3 : Hid (Below w2.heap.size w2 w3) := hb3
  clear hb3
  go_wp2
  refine wp_loop_rounds 5 ?_
  rw [rounds_succ]
  go_wp2_with fail
  cases b0
  · refine (HLk.out m0 true _ HMl.out.1 HB3.out (by rw [HBs.out.1]; rfl)).mono ?_
    rintro e w4 ⟨rfl, rfl⟩
    go_wp2
    go_ret2
    exact ⟨by rw [← HR.out]; simp, HB3.out⟩
  · refine (HLk.out m0 false _ HMl.out.1 HB3.out (by rw [HBs.out.1]; rfl)).mono ?_
    rintro e w4 ⟨rfl, rfl⟩
    go_wp2
    rw [rounds_succ]
    go_wp2_with fail
    cases b1
    · refine (HLk.out m1 true _ HMl.out.2.1 HB3.out (by rw [HBs.out.2.1]; rfl)).mono ?_
      rintro e w4 ⟨rfl, rfl⟩
      go_wp2
      go_ret2
      exact ⟨by rw [← HR.out]; simp, HB3.out⟩
    · refine (HLk.out m1 false _ HMl.out.2.1 HB3.out (by rw [HBs.out.2.1]; rfl)).mono ?_
      rintro e w4 ⟨rfl, rfl⟩
      go_wp2
      rw [rounds_succ]
      go_wp2_with fail
      cases b2
      · refine (HLk.out m2 true _ HMl.out.2.2.1 HB3.out (by rw [HBs.out.2.2.1]; rfl)).mono ?_
        rintro e w4 ⟨rfl, rfl⟩
        go_wp2
        go_ret2
        exact ⟨by rw [← HR.out]; simp, HB3.out⟩
      · refine (HLk.out m2 false _ HMl.out.2.2.1 HB3.out (by rw [HBs.out.2.2.1]; rfl)).mono ?_
        rintro e w4 ⟨rfl, rfl⟩
        go_wp2
        rw [rounds_succ]
        go_wp2_with fail
        cases b3
        · refine (HLk.out m3 true _ HMl.out.2.2.2 HB3.out (by rw [HBs.out.2.2.2]; rfl)).mono ?_
          rintro e w4 ⟨rfl, rfl⟩
          go_wp2
          go_ret2
          exact ⟨by rw [← HR.out]; simp, HB3.out⟩
        · refine (HLk.out m3 false _ HMl.out.2.2.2 HB3.out (by rw [HBs.out.2.2.2]; rfl)).mono ?_
          rintro e w4 ⟨rfl, rfl⟩
          go_wp2
          rw [rounds_succ]
          go_wp2
          go_ret2
          exact ⟨by rw [← HR.out]; rfl, HB3.out⟩
theorem Marks_long (s : ByteArray) (z : Int) (w : World) (hs : (256 : Int) < (s.size : Int)) :
    Calls Try.prog 9 #[.string s, .int .i64 z] w fun e w' => e = .returned (.tuple #[.slice none 0 0, .int .i64 3]) ∧ w' = w := by
  have g1 : decide ((256 : Int) < (s.size : Int)) = true := decide_eq_true hs
  clear hs
  go_enter Try.func9, Try.ntmps9
  go_wp2_with fail
  refine (tooLong_any s _).mono ?_
  rintro e w2 ⟨rfl, rfl⟩
  rw [g1]
  go_wp2
  go_ret2
  exact ⟨rfl, rfl⟩
theorem Marks_arg (s : ByteArray) (z : Int) (w : World) (hs : (s.size : Int) ≤ 256) (hz : z < 1 ∨ 65536 < z) :
    Calls Try.prog 9 #[.string s, .int .i64 z] w fun e w' => e = .returned (.tuple #[.slice none 0 0, .int .i64 2]) ∧ w' = w := by
  have g1 : decide ((256 : Int) < (s.size : Int)) = false := decide_eq_false (by omega)
  clear hs
  rcases hz with h | h
  · go_enter Try.func9, Try.ntmps9
    go_wp2_with fail
    refine (tooLong_any s _).mono ?_
    rintro e w2 ⟨rfl, rfl⟩
    rw [g1]
    go_wp2
    go_ret2
    exact ⟨rfl, rfl⟩
  · have h' : ¬ (z < 1) := by omega
    go_enter Try.func9, Try.ntmps9
    go_wp2_with fail
    refine (tooLong_any s _).mono ?_
    rintro e w2 ⟨rfl, rfl⟩
    rw [g1]
    go_wp2
    go_ret2
    exact ⟨rfl, rfl⟩
/-- Numbers as cells. -/
def Is (l : List Nat) : List Value := l.map fun n : Nat => Value.int .i64 (n : Int)
theorem Marks_ok (s : ByteArray) (m : Nat) (w : World) (hs : (s.size : Int) ≤ 256) (h0 : (1 : Int) ≤ (m : Int)) (hm : (m : Int) ≤ 65536) :
    Calls Try.prog 9 #[.string s, .int .i64 m] w fun e w' => ∃ g, e = .returned (.tuple #[.slice (some ⟨g, 0, none⟩) 4 4, .int .i64 0]) ∧ w'.heap[g]? = some (.cells (Is (marksN s m)).toArray 46 (0, 0)) ∧ w.heap.size ≤ g ∧ Below w.heap.size w w' := by
  have g1 : decide ((256 : Int) < (s.size : Int)) = false := decide_eq_false (by omega)
  have HMc := marks_any s m
  obtain ⟨m0, e0⟩ : ∃ a, markAt s 0 % m = a := ⟨_, rfl⟩
  obtain ⟨m1, e1⟩ : ∃ a, markAt s 1 % m = a := ⟨_, rfl⟩
  obtain ⟨m2, e2⟩ : ∃ a, markAt s 2 % m = a := ⟨_, rfl⟩
  obtain ⟨m3, e3⟩ : ∃ a, markAt s 3 % m = a := ⟨_, rfl⟩
  have HM : Hid (marksN s m = [m0, m1, m2, m3]) := by show _ = _; unfold marksN; rw [e0, e1, e2, e3]
  rw [e0, e1, e2, e3] at HMc
  have HC : Hid (∀ w : World, Calls Try.prog 18 #[.string s, .int .i64 m] w fun e w' => e = .returned (.agg #[.int .i64 m0, .int .i64 m1, .int .i64 m2, .int .i64 m3]) ∧ Below w.heap.size w w') := fun w => HMc w hs (by omega) hm
  clear HMc e0 e1 e2 e3 hs
  go_enter Try.func9, Try.ntmps9
  go_wp2_with fail
  refine (tooLong_any s _).mono ?_
  rintro e w2 ⟨rfl, rfl⟩
  rw [g1]
  go_wp2_with fail
  refine (HC.out _).mono ?_
  rintro e w3 ⟨rfl, hb3⟩
  have HB3 : Hid (Below w2.heap.size w2 w3) := hb3
  clear hb3
  go_wp2
  go_ret2
  refine ⟨w3.heap.size, rfl, ?_, HB3.out.size, below_bt HB3.out (below_alloc _ _)⟩
  rw [HM.out]
  exact heap_alloc_new w3 _
end Go.Proofs.Ytidjgilipffdpaa
namespace Go.Proofs.Ytidjgilipffdpaa
open Go.RowKit Go.WideShapes Go.ChangeShapes

structure StrRow (w : World) (v : Value) (l : List ByteArray) : Prop where
  lies : ∃ q c, v = .slice q l.length c ∧ StrsIn w q l ∧ l.length ≤ c ∧ c ≤ maxLen ∧ (q = none → c = 0)
  each : ∀ s ∈ l, s.size ≤ maxLen
section
variable {P : Program} {w : World} {H : Type} {enc : TypeId × Value → H}
theorem open_strs {t e : TypeId} {n : Nat} {v : Value} {x : DataW H × List MemPlace} (ht : P.underlying t = some (.slice e)) (he : P.underlying e = some .string) (hc : P.cellsOf e = 1)
    (h : DataW.trod enc P w 0 (fun _ => true) true n t [v] = some x) : ∃ l, StrRow w v l := by
  rcases open_strings ht he hc h with ⟨hcs, _⟩ | ⟨a, len, cap, ss, hcs, _, hl, hm, hz, _, hcell, hsz⟩
  · simp only [List.cons.injEq, and_true] at hcs
    exact ⟨[], ⟨none, 0, hcs, fun h => absurd h (by simp), by simp, by unfold maxLen; omega, fun _ => rfl⟩, by simp⟩
  · simp only [List.cons.injEq, and_true] at hcs
    have hz' : ss.length = cap := by simpa using hz
    have hlen : (ss.take len).length = len := by simp; omega
    refine ⟨ss.take len, ⟨⟨some a, cap, by rw [hlen]; exact hcs, fun hp => ?_, by rw [hlen]; exact hl, hm, by simp⟩, fun s hs => hsz s (List.mem_of_mem_take hs)⟩⟩
    rw [hlen] at hp
    obtain ⟨b, o, s⟩ := a
    obtain rfl : s = none := by simpa [Addr.add] using World.cell?_spot (hcell 0 (by omega))
    refine ⟨b, o, rfl, fun i hi => ?_⟩
    rw [hlen] at hi
    rw [← add_plain, hcell i (by omega)]
    simp [List.getD, List.getElem?_take_of_lt hi]
end
def makeE (l : List ByteArray) (z : Int) : Nat := if 4096 < l.length then 4 else if longB l = true then 3 else if z < 8 ∨ 65536 < z ∨ z % 8 ≠ 0 then 2 else 0
theorem makeE_ok {l : List ByteArray} {z : Int} (h : makeE l z = 0) : l.length ≤ 4096 ∧ longB l = false ∧ 8 ≤ z ∧ z ≤ 65536 ∧ z % 8 = 0 := by
  unfold makeE at h
  split at h
  · cases h
  · split at h
    · cases h
    · split at h
      · cases h
      · rename_i h1 h2 h3
        exact ⟨by omega, by simpa using h2, by omega, by omega, by omega⟩
theorem makeE_is {l : List ByteArray} {z : Int} (h1 : l.length ≤ 4096) (h2 : longB l = false) (h3 : 8 ≤ z) (h4 : z ≤ 65536) (h5 : z % 8 = 0) : makeE l z = 0 := by
  unfold makeE
  rw [if_neg (by omega), if_neg (by simp [h2]), if_neg (by omega)]
theorem makeE_range (l : List ByteArray) (z : Int) : makeE l z ≤ 4 := by
  unfold makeE
  split
  · omega
  · split
    · omega
    · split <;> omega
/-- What Make answers. -/
structure Made (w w' : World) (v : Value) (l : List ByteArray) (z : Int) : Prop where
  no : makeE l z ≠ 0 → v = .slice none 0 0
  yes : makeE l z = 0 → ∃ g, v = .slice (some ⟨g, 0, none⟩) (z.toNat / 8) (z.toNat / 8) ∧ w'.heap[g]? = some (.cells (Bs (makeN l z.toNat)).toArray 5 (0, 0)) ∧ w.heap.size ≤ g
  below : Below w.heap.size w w'
theorem Make_u (q : Option Addr) (n c : Nat) (l : List ByteArray) (z : Int) (w : World) (hn : n = l.length) (hl : StrsIn w q l) (E : Nat) (hE : makeE l z = E) :
    Calls Try.prog 10 #[.slice q n c, .int .i64 z] w fun e w' => ∃ v, e = .returned (.tuple #[v, .int .i64 E]) ∧ Made w w' v l z := by
  subst hE
  by_cases h1 : 4096 < l.length
  · have e : makeE l z = 4 := by unfold makeE; rw [if_pos h1]
    rw [e]
    refine (Make_many q n c z w (by omega)).mono ?_
    rintro _ w' ⟨rfl, rfl⟩
    exact ⟨_, rfl, fun _ => rfl, fun h => (by rw [e] at h; cases h), Below.refl _ _⟩
  · cases h2 : longB l with
    | true =>
      have e : makeE l z = 3 := by unfold makeE; rw [if_neg h1, if_pos h2]
      rw [e]
      refine (Make_long q n c z l w hn hl (by omega) h2).mono ?_
      rintro _ w' ⟨rfl, rfl⟩
      exact ⟨_, rfl, fun _ => rfl, fun h => (by rw [e] at h; cases h), Below.refl _ _⟩
    | false =>
      by_cases h3 : z < 8 ∨ 65536 < z ∨ z % 8 ≠ 0
      · have e : makeE l z = 2 := by unfold makeE; rw [if_neg h1, if_neg (by simp [h2]), if_pos h3]
        rw [e]
        refine (Make_arg q n c z l w hn hl (by omega) h2 h3).mono ?_
        rintro _ w' ⟨rfl, rfl⟩
        exact ⟨_, rfl, fun _ => rfl, fun h => (by rw [e] at h; cases h), Below.refl _ _⟩
      · have e : makeE l z = 0 := makeE_is (by omega) h2 (by omega) (by omega) (by omega)
        rw [e]
        obtain ⟨m, rfl⟩ : ∃ m : Nat, z = m := ⟨z.toNat, by omega⟩
        refine (Make_ok q n c m l w hn hl (by omega) h2 (by omega) (by omega) (by omega)).mono ?_
        rintro _ w' ⟨g, rfl, hf⟩
        exact ⟨_, rfl, fun h => absurd e h, fun _ => ⟨g, by simp, by simpa using hf.blk, hf.ge⟩, hf.below⟩
theorem below_dr (w : World) (n : Nat) : Below w.heap.size w (w.drewN n) := ⟨rfl, rfl, rfl, Nat.le_refl _, fun _ _ => rfl⟩
theorem is_cell {w : World} {g : Nat} {l : List Nat} {t : TypeId} (h : w.heap[g]? = some (.cells (Is l).toArray t (0, 0))) {k : Nat} (hk : k < l.length) : w.cell? ⟨g, k, none⟩ = some (.int .i64 (l.getD k 0 : Nat)) := by
  rw [Lib.cell_of_heap h]
  simp [Is, List.getD, List.getElem?_eq_getElem hk]
def keyA : ByteArray := ⟨#[97]⟩
theorem made_a : makeN [keyA] 8 = [15] := by decide +kernel
theorem has_a : hasB [15] keyA = true := by decide +kernel
theorem strs_one (w : World) (s : ByteArray) (e : TypeId) : StrsIn (w.alloc (.cells #[.string s] e)) (some ⟨w.heap.size, 0, none⟩) [s] := by
  intro _
  refine ⟨w.heap.size, 0, rfl, fun i hi => ?_⟩
  have hh := heap_alloc_new w (.cells #[.string s] e)
  obtain rfl : i = 0 := by simpa using hi
  rw [Lib.cell_of_heap hh]
  simp
set_option maxRecDepth 8000 in
set_option maxHeartbeats 1000000 in
theorem alive_any (w : World) : Calls Try.prog 12 #[] w fun e w' => e = .returned (.bool true) ∧ Below w.heap.size w w' := by
  have HS : Hid (StrsIn (w.alloc (.cells #[.string ⟨#[97]⟩] 9)) (some ⟨w.heap.size, 0, none⟩) [keyA]) := strs_one w keyA 9
  go_enter Try.func12, Try.ntmps12
  go_wp2_with fail
  refine (Make_ok (some ⟨w.heap.size, 0, none⟩) 1 1 8 [keyA] _ rfl HS.out (by decide) (by decide +kernel) (by decide) (by decide) (by decide)).mono ?_
  rintro e w1 ⟨g, rfl, hf⟩
  rw [made_a] at hf
  have c0 : w1.cell? ⟨g, 0, none⟩ = some (.int .u8 15) := by rw [Lib.cell_of_heap hf.blk]; rfl
  have HB1 : Hid (Below w.heap.size w w1) := below_bt (below_alloc _ _) hf.below
  have HI : Hid (BIn w1 (some ⟨g, 0, none⟩) [15]) := bin_row hf.blk hf.lt
  clear hf
  go_wp2_with fail
  refine (Has_ok (some ⟨g, 0, none⟩) 1 1 [15] ⟨#[97]⟩ _ rfl HI.out (by decide) (by decide) (by decide) true has_a).mono ?_
  rintro e w2 ⟨rfl, hb2⟩
  have c1 : w2.cell? ⟨g, 0, none⟩ = some (.int .u8 15) := (hb2.cell (World.block_lt_of_cell? _ _ c0)).trans c0
  have HB2 : Hid (Below w.heap.size w w2) := below_bt HB1.out hb2
  clear hb2 c0
  go_wp2
  go_ret
  exact ⟨rfl, HB2.out⟩
end Go.Proofs.Ytidjgilipffdpaa
namespace Go.Proofs.Ytidjgilipffdpaa.sieveMarks
open Go.ChangeShapes Go.WideShapes Go.ChangeAt Go.RowKit
open Go.ChangeMaps (open_string shut_string)
set_option linter.unusedVariables false

theorem own : ownKnob Try.prog.godebug = none := by kernel_rfl
theorem laidOut : laidOutB Try.prog = true := by kernel_rfl

set_option maxRecDepth 8000 in
set_option maxHeartbeats 4000000 in
theorem walk_ok (s : ByteArray) (m : Nat) (w : World) (hs : (s.size : Int) ≤ 256) (h0 : (1 : Int) ≤ (m : Int)) (hm : (m : Int) ≤ 65536) :
    Calls Try.prog 8 #[.string s, .int .i64 m] w fun e w' => e = .returned (.bool true) ∧ Below w.heap.size w w' := by
  have HS : Hid ((s.size : Int) ≤ 256) := hs
  clear hs
  go_enter Try.func8, Try.ntmps8
  go_wp2_with fail
  refine (alive_any _).mono ?_
  rintro e w1 ⟨rfl, hb1⟩
  have HB1 : Hid (Below w.heap.size w w1) := hb1
  clear hb1
  go_wp2_with fail
  refine (Marks_ok s m _ HS.out h0 hm).mono ?_
  rintro e w2 ⟨g, rfl, hg, _, hb2⟩
  have HB2 : Hid (Below w.heap.size w w2) := below_bt HB1.out hb2
  have HG2 : Hid (w2.heap[g]? = some (.cells (Is (marksN s m)).toArray 46 (0, 0))) := hg
  clear hb2 hg
  go_wp2_with fail
  refine (Marks_ok s m _ HS.out h0 hm).mono ?_
  rintro e w3 ⟨g', rfl, hg', _, hb3⟩
  have HB3 : Hid (Below w.heap.size w w3) := below_bt HB2.out hb3
  have HG3 : Hid (w3.heap[g]? = some (.cells (Is (marksN s m)).toArray 46 (0, 0)) ∧ w3.heap[g']? = some (.cells (Is (marksN s m)).toArray 46 (0, 0))) := ⟨(hb3.block g (lt_heap HG2.out)).trans HG2.out, hg'⟩
  clear hb3 hg'
  go_wp2
  go_loopw [10] (fun i wr => ∃ k : Nat, k ≤ 4 ∧ i = .int .i64 k ∧ Below w3.heap.size w3 wr) (fun i _ => 4 - (intOf i).toNat)
  case atStart => exact ⟨0, by omega, rfl, Below.refl _ _⟩
  case round =>
    obtain ⟨k, hk, rfl, hbr⟩ := hrel
    have HBR : Hid (Below w3.heap.size w3 wr) := hbr
    clear hbr
    by_cases hkn : k < 4
    · have hkI : (k : Int) < 4 := by omega
      obtain ⟨x, hx⟩ : ∃ x, (marksN s m).getD k 0 = x := ⟨_, rfl⟩
      have c1 : wr.cell? ⟨g, k, none⟩ = some (.int .i64 x) := by
        rw [← hx]; exact is_cell ((HBR.out.block g (lt_heap HG3.out.1)).trans HG3.out.1) (by rw [marksN_len]; exact hkn)
      have c2 : wr.cell? ⟨g', k, none⟩ = some (.int .i64 x) := by
        rw [← hx]; exact is_cell ((HBR.out.block g' (lt_heap HG3.out.2)).trans HG3.out.2) (by rw [marksN_len]; exact hkn)
      have hxm : x < m := by rw [← hx, marksN_at s m k hkn]; exact Nat.mod_lt _ (by omega)
      have t1 : decide ((x : Int) < 0) = false := decide_eq_false (by omega)
      have t2 : decide ((m : Int) ≤ (x : Int)) = false := decide_eq_false (by omega)
      have t3 : decide (m ≤ x) = false := decide_eq_false (by omega)
      have HK : Hid (k < 4) := hkn
      clear hx hkn hxm
      go_wp2
      go_quiet (fail)
      go_wp2
      go_roundw
      case rel => exact ⟨k + 1, by have := HK.out; omega, by go_num, below_bt HBR.out (below_dr _ _)⟩
      case measure => have := HK.out; simp [intOf]; omega
    · obtain rfl : k = 4 := by omega
      go_wp2
      go_ret
      exact ⟨rfl, below_bt HB3.out HBR.out⟩
theorem walk (s : ByteArray) (z : Int) (w : World) (ws : s.size ≤ maxLen) (wz : (Lit.int .i64 z).wf = true) :
    Calls Try.prog 8 #[.string s, .int .i64 z] w fun e w' => e = .returned (.bool true) ∧ Below w.heap.size w w' := by
  by_cases h1 : 256 < s.size
  · have h1I : (256 : Int) < (s.size : Int) := by omega
    clear h1
    go_enter Try.func8, Try.ntmps8
    go_wp2_with fail
    refine (alive_any _).mono ?_
    rintro e w1 ⟨rfl, hb1⟩
    have HB1 : Hid (Below w.heap.size w w1) := hb1
    clear hb1
    go_wp2_with fail
    refine (Marks_long s z _ h1I).mono ?_
    rintro e w2 ⟨rfl, rfl⟩
    go_wp2_with fail
    refine (Marks_long s z _ h1I).mono ?_
    rintro e w3 ⟨rfl, rfl⟩
    go_wp2
    go_ret
    exact ⟨rfl, HB1.out⟩
  · by_cases h2 : z < 1 ∨ 65536 < z
    · have h1I : (s.size : Int) ≤ 256 := by omega
      have H2 : Hid (z < 1 ∨ 65536 < z) := h2
      have h4 : (decide (z < 1) || decide (65536 < z)) = true := by simpa using h2
      have h3 : decide ((256 : Int) < (s.size : Int)) = false := decide_eq_false (by omega)
      clear h1 h2
      go_enter Try.func8, Try.ntmps8
      go_wp2_with fail
      refine (alive_any _).mono ?_
      rintro e w1 ⟨rfl, hb1⟩
      have HB1 : Hid (Below w.heap.size w w1) := hb1
      clear hb1
      go_wp2_with fail
      refine (Marks_arg s z _ h1I H2.out).mono ?_
      rintro e w2 ⟨rfl, rfl⟩
      go_wp2_with fail
      refine (Marks_arg s z _ h1I H2.out).mono ?_
      rintro e w3 ⟨rfl, rfl⟩
      go_wp2
      all_goals
        go_ret
        exact ⟨rfl, HB1.out⟩
    · obtain ⟨m, rfl⟩ : ∃ m : Nat, z = m := ⟨z.toNat, by omega⟩
      exact walk_ok s m w (by omega) (by omega) (by omega)

/-! ### THE ROW's STEP -/
set_option maxRecDepth 100000 in
theorem lifted (os : Os) (started : os.Started) (H : Type) (enc : TypeId × Value → H) :
    ReturnsInHanded {} Try.checked os 8 .any (Rows.sieveMarksSpec.pre6 enc Try.prog Try.f8 Rows.sieveMarksRow.domain false) (Rows.sieveMarksSpec.post enc Try.prog Try.f8 false true false false) := by
  refine returnsInHanded_of_change (C := Try.checked) own started (by kernel_rfl) Try.func8
    (ChangeSpec.witness6 (enc := enc) (C := Try.checked) false ⟨#[], #[.string ByteArray.empty, .int .i64 0], []⟩ 8 (by kernel_rfl) (by kernel_rfl) (by kernel_rfl) (by kernel_rfl)) ?_
  intro W base args ds gs before hval0 hW hcnd _
  have hval : ∀ (j : Nat) t v, Try.f8.params[j]? = some t → args[j]? = some v → Value.okWide Try.prog W .any base t v := hval0
  have hW' := hW
  obtain ⟨p, q, hA0, hV, rfl, hfz, hnd⟩ := hW
  have hA : DataW.TrodAll enc Try.prog W 0 (fun _ => true) true Try.f8.params.toList args.toList ds p := hA0
  rw [Try.params8] at hA hval
  obtain ⟨v0, vs0, d0, ds0, p0, q0, hargs, rfl, rfl, h0, r0⟩ := trodAll_cons hA
  obtain ⟨v1, vs1, d1, ds1, p1, q1, rfl, rfl, rfl, h1, r1⟩ := trodAll_cons r0
  obtain ⟨rfl, rfl, rfl⟩ := trodAll_nil r1
  obtain rfl : args = #[v0, v1] := by cases args; simp_all
  obtain ⟨rfl, rfl⟩ := trodVars_none hV
  obtain ⟨a0, rfl, rfl, rfl, w0⟩ := open_string Try.underlying9 (hval 0 9 v0 rfl rfl) h0
  obtain ⟨a1, rfl, rfl, rfl, w1⟩ := open_int Try.underlying3 (hval 1 3 v1 rfl rfl) h1
  clear hA0 hval0
  refine (walk a0 a1 W w0 w1).mono fun e W' ⟨he, bel⟩ => ?_
  subst he
  exact ⟨_, rfl, _, _, _, [], _, [], hW', trodAll_mk1 (shut_bool Try.underlying4 _), (trodAll_cons_mk (shut_string Try.underlying9 w0) (trodAll_cons_mk (shut_int Try.underlying3 w1) trodAll_mk0)), rfl, bel.frame _, fun h => by cases h⟩

theorem over : Rows.sieveMarksRow.holds Try.pinned (OpenSpec.ofChange Rows.sieveMarksSpec) :=
  OpenClaim.holds_of_wide 8 Try.f8 rfl rfl rfl rfl rfl rfl rfl ⟨rfl, rfl, rfl, rfl, rfl⟩ rfl rfl rfl rfl rfl (by kernel_rfl) Try.func8 (by kernel_rfl)
    (of_decide_eq_true (by kernel_rfl)) (by unfold Func.isWrapper; first | (rw [if_pos (by decide +kernel)]; kernel_rfl) | (rw [if_neg (by decide +kernel)]; exact ⟨rfl, rfl⟩))
    (fun os started H enc _ => lifted os started H enc)

theorem proved : Rows.SieveMarksSaid := over
end Go.Proofs.Ytidjgilipffdpaa.sieveMarks
namespace Go.Proofs.Ytidjgilipffdpaa
theorem sieveMarks_holds : Rows.SieveMarksSaid := sieveMarks.proved
#print axioms sieveMarks_holds
end Go.Proofs.Ytidjgilipffdpaa
