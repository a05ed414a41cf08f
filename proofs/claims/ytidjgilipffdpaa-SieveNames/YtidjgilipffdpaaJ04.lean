/-
  The limits and errors have their numbers, and the chapter's examples are so; it takes no input.
-/
import Derived.Test.YtidjgilipffdpaaJ03
import Derived.WalkKit
import Derived.OpenShut
import Derived.Deep.QuietTactic
import Derived.BigQuiet
import Derived.Deep.OwnRows
import Derived.Deep.Cut
import Derived.RegionTactic
import Derived.Test.YtidjgilipffdpaaRows
import Derived.ProofKit
import Derived.ShutString
import Derived.ChangeOld
import Derived.Below
namespace Go.Proofs.Ytidjgilipffdpaa
open Go.RowKit Go.WideShapes

theorem Make_many (q : Option Addr) (n c : Nat) (z : Int) (w : World) (hN : (4096 : Int) < (n : Int)) :
    Calls Try.prog 10 #[.slice q n c, .int .i64 z] w fun e w' => e = .returned (.tuple #[.slice none 0 0, .int .i64 4]) ∧ w' = w := by
  go_enter Try.func10, Try.ntmps10
  go_wp2
  go_ret2
  exact ⟨rfl, rfl⟩
theorem Make_long (q : Option Addr) (n c : Nat) (z : Int) (l : List ByteArray) (w : World) (hn : n = l.length) (hl : StrsIn w q l) (hN : (n : Int) ≤ 4096) (hlong : longB l = true) :
    Calls Try.prog 10 #[.slice q n c, .int .i64 z] w fun e w' => e = .returned (.tuple #[.slice none 0 0, .int .i64 3]) ∧ w' = w := by
  have HC := containsFunc_any q n c l w hn hl (by omega) true hlong
  clear hn hl hlong
  go_enter Try.func10, Try.ntmps10
  go_wp2_with fail
  refine HC.mono ?_
  rintro e w1 ⟨rfl, rfl⟩
  go_wp2
  go_ret2
  exact ⟨rfl, rfl⟩
theorem Make_arg (q : Option Addr) (n c : Nat) (z : Int) (l : List ByteArray) (w : World) (hn : n = l.length) (hl : StrsIn w q l) (hN : (n : Int) ≤ 4096) (hlong : longB l = false) (hz : z < 8 ∨ 65536 < z ∨ z % 8 ≠ 0) :
    Calls Try.prog 10 #[.slice q n c, .int .i64 z] w fun e w' => e = .returned (.tuple #[.slice none 0 0, .int .i64 2]) ∧ w' = w := by
  have HC := containsFunc_any q n c l w hn hl (by omega) false hlong
  clear hn hl hlong
  by_cases h1 : z < 8
  · clear hz
    go_enter Try.func10, Try.ntmps10
    go_wp2_with fail
    refine HC.mono ?_
    rintro e w1 ⟨rfl, rfl⟩
    go_wp2
    go_ret2
    exact ⟨rfl, rfl⟩
  · by_cases h2 : 65536 < z
    · clear hz
      go_enter Try.func10, Try.ntmps10
      go_wp2_with fail
      refine HC.mono ?_
      rintro e w1 ⟨rfl, rfl⟩
      go_wp2
      go_ret2
      exact ⟨rfl, rfl⟩
    · have g1 : (z % 8 != 0) = true := by simp; omega
      have h3 : 8 ≤ z := by omega
      have h4 : z ≤ 65536 := by omega
      clear hz h1 h2
      go_enter Try.func10, Try.ntmps10
      go_wp2_with fail
      refine HC.mono ?_
      rintro e w1 ⟨rfl, rfl⟩
      go_wp2
      go_ret2
      exact ⟨rfl, rfl⟩
theorem Has_arg (p : Option Addr) (L cap : Nat) (s : ByteArray) (w : World) (h : (L : Int) < 1 ∨ (8192 : Int) < (L : Int)) :
    Calls Try.prog 11 #[.slice p L cap, .string s] w fun e w' => e = .returned (.tuple #[.bool false, .int .i64 2]) ∧ w' = w := by
  rcases h with h | h
  · go_enter Try.func11, Try.ntmps11
    go_wp2
    go_ret2
    exact ⟨rfl, rfl⟩
  · have h' : ¬ ((L : Int) < 1) := by omega
    go_enter Try.func11, Try.ntmps11
    go_wp2
    go_ret2
    exact ⟨rfl, rfl⟩
theorem Has_long (p : Option Addr) (L cap : Nat) (s : ByteArray) (w : World) (h1 : (1 : Int) ≤ (L : Int)) (h2 : (L : Int) ≤ 8192) (hs : (256 : Int) < (s.size : Int)) :
    Calls Try.prog 11 #[.slice p L cap, .string s] w fun e w' => e = .returned (.tuple #[.bool false, .int .i64 3]) ∧ w' = w := by
  have g1 : decide ((256 : Int) < (s.size : Int)) = true := decide_eq_true hs
  clear hs
  go_enter Try.func11, Try.ntmps11
  go_wp2_with fail
  refine (tooLong_any s _).mono ?_
  rintro e w2 ⟨rfl, rfl⟩
  rw [g1]
  go_wp2
  go_ret2
  exact ⟨rfl, rfl⟩
set_option maxRecDepth 8000 in
set_option maxHeartbeats 4000000 in
theorem Has_ok (p : Option Addr) (L cap : Nat) (xs : List Nat) (s : ByteArray) (w : World) (hL : L = xs.length) (hb : BIn w p xs) (h1 : (1 : Int) ≤ (L : Int)) (h2 : (L : Int) ≤ 8192) (hs : (s.size : Int) ≤ 256) (r : Bool) (hr : hasB xs s = r) :
    Calls Try.prog 11 #[.slice p L cap, .string s] w fun e w' => e = .returned (.tuple #[.bool r, .int .i64 0]) ∧ Below w.heap.size w w' := by
  have g1 : decide ((256 : Int) < (s.size : Int)) = false := decide_eq_false (by omega)
  obtain ⟨m, hm⟩ : ∃ m, 8 * L = m := ⟨_, rfl⟩
  have hmI : (8 : Int) * (L : Int) = (m : Int) := by omega
  obtain ⟨m0, e0⟩ : ∃ a, markAt s 0 % m = a := ⟨_, rfl⟩
  obtain ⟨m1, e1⟩ : ∃ a, markAt s 1 % m = a := ⟨_, rfl⟩
  obtain ⟨m2, e2⟩ : ∃ a, markAt s 2 % m = a := ⟨_, rfl⟩
  obtain ⟨m3, e3⟩ : ∃ a, markAt s 3 % m = a := ⟨_, rfl⟩
  have HM : Hid (marksN s m = [m0, m1, m2, m3]) := by show _ = _; unfold marksN; rw [e0, e1, e2, e3]
  have HMl : Hid (m0 < m ∧ m1 < m ∧ m2 < m ∧ m3 < m) := by
    have h := marksN_lt s m (by omega)
    rw [HM.out] at h
    exact ⟨h _ (by simp), h _ (by simp), h _ (by simp), h _ (by simp)⟩
  have HMk := marks_any s m
  rw [e0, e1, e2, e3] at HMk
  have HMc : Hid (∀ w : World, Calls Try.prog 18 #[.string s, .int .i64 m] w fun e w' => e = .returned (.agg #[.int .i64 m0, .int .i64 m1, .int .i64 m2, .int .i64 m3]) ∧ Below w.heap.size w w') := fun w => HMk w hs (by omega) (by omega)
  have HR : Hid ((((xs.getD (m0 / 8) 0).testBit (m0 % 8)) && (((xs.getD (m1 / 8) 0).testBit (m1 % 8)) && (((xs.getD (m2 / 8) 0).testBit (m2 % 8)) && ((xs.getD (m3 / 8) 0).testBit (m3 % 8))))) = r) := by
    show _ = _
    rw [← hr]
    unfold hasB
    rw [← hL, hm, HM.out]
    simp
  have HLk : Hid (∀ (n : Nat) (r : Bool) (w' : World), n < m → Below w.heap.size w w' → (xs.getD (n / 8) 0).testBit (n % 8) = (!r) → Calls Try.prog 21 #[.slice p L cap, .int .i64 n] w' fun e w2 => e = .returned (.bool r) ∧ w2 = w') := fun n r w' hn hbl hr => lacks_any p L cap n xs w' hL (hb.below hbl) (by omega) (by omega) r hr
  obtain ⟨b0, hb0⟩ : ∃ b, (xs.getD (m0 / 8) 0).testBit (m0 % 8) = b := ⟨_, rfl⟩
  obtain ⟨b1, hb1⟩ : ∃ b, (xs.getD (m1 / 8) 0).testBit (m1 % 8) = b := ⟨_, rfl⟩
  obtain ⟨b2, hb2⟩ : ∃ b, (xs.getD (m2 / 8) 0).testBit (m2 % 8) = b := ⟨_, rfl⟩
  obtain ⟨b3, hb3⟩ : ∃ b, (xs.getD (m3 / 8) 0).testBit (m3 % 8) = b := ⟨_, rfl⟩
  rw [hb0, hb1, hb2, hb3] at HR
  have HBs : Hid ((xs.getD (m0 / 8) 0).testBit (m0 % 8) = b0 ∧ (xs.getD (m1 / 8) 0).testBit (m1 % 8) = b1 ∧ (xs.getD (m2 / 8) 0).testBit (m2 % 8) = b2 ∧ (xs.getD (m3 / 8) 0).testBit (m3 % 8) = b3) := ⟨hb0, hb1, hb2, hb3⟩
  clear hb0 hb1 hb2 hb3 e0 e1 e2 e3 HMk hr hm hb hL HM
  have i0 : ∀ w, (Instr.index 46 (.agg #[.int .i64 m0, .int .i64 m1, .int .i64 m2, .int .i64 m3]) (.int .i64 0)).run Try.prog w = .ok (.int .i64 m0) w := fun _ => by kernel_rfl
  have i1 : ∀ w, (Instr.index 46 (.agg #[.int .i64 m0, .int .i64 m1, .int .i64 m2, .int .i64 m3]) (.int .i64 1)).run Try.prog w = .ok (.int .i64 m1) w := fun _ => by kernel_rfl
  have i2 : ∀ w, (Instr.index 46 (.agg #[.int .i64 m0, .int .i64 m1, .int .i64 m2, .int .i64 m3]) (.int .i64 2)).run Try.prog w = .ok (.int .i64 m2) w := fun _ => by kernel_rfl
  have i3 : ∀ w, (Instr.index 46 (.agg #[.int .i64 m0, .int .i64 m1, .int .i64 m2, .int .i64 m3]) (.int .i64 3)).run Try.prog w = .ok (.int .i64 m3) w := fun _ => by kernel_rfl
  go_enter Try.func11, Try.ntmps11
  go_wp2_with fail
  refine (tooLong_any s _).mono ?_
  rintro e w2 ⟨rfl, rfl⟩
  rw [g1]
  go_wp2_with fail
  refine (HMc.out _).mono ?_
  rintro e w3 ⟨rfl, hb3⟩
  have HB3 : Hid (Below w2.heap.size w2 w3) := hb3
  clear hb3
  go_wp2
  refine wp_loop_rounds 5 ?_
  rw [rounds_succ]
  go_wp2_with fail
  cases b0
  · refine (HLk.out m0 true _ HMl.out.1 HB3.out (by rw [HBs.out.1]; rfl)).mono ?_
    rintro e w4 ⟨rfl, rfl⟩
    go_wp2
    go_ret2
    exact ⟨by rw [← HR.out]; simp, HB3.out⟩
  · refine (HLk.out m0 false _ HMl.out.1 HB3.out (by rw [HBs.out.1]; rfl)).mono ?_
    rintro e w4 ⟨rfl, rfl⟩
    go_wp2
    rw [rounds_succ]
    go_wp2_with fail
    cases b1
    · refine (HLk.out m1 true _ HMl.out.2.1 HB3.out (by rw [HBs.out.2.1]; rfl)).mono ?_
      rintro e w4 ⟨rfl, rfl⟩
      go_wp2
      go_ret2
      exact ⟨by rw [← HR.out]; simp, HB3.out⟩
    · refine (HLk.out m1 false _ HMl.out.2.1 HB3.out (by rw [HBs.out.2.1]; rfl)).mono ?_
      rintro e w4 ⟨rfl, rfl⟩
      go_wp2
      rw [rounds_succ]
      go_wp2_with fail
      cases b2
      · refine (HLk.out m2 true _ HMl.out.2.2.1 HB3.out (by rw [HBs.out.2.2.1]; rfl)).mono ?_
        rintro e w4 ⟨rfl, rfl⟩
        go_wp2
        go_ret2
        exact ⟨by rw [← HR.out]; simp, HB3.out⟩
      · refine (HLk.out m2 false _ HMl.out.2.2.1 HB3.out (by rw [HBs.out.2.2.1]; rfl)).mono ?_
        rintro e w4 ⟨rfl, rfl⟩
        go_wp2
        rw [rounds_succ]
        go_wp2_with fail
        cases b3
        · refine (HLk.out m3 true _ HMl.out.2.2.2 HB3.out (by rw [HBs.out.2.2.2]; rfl)).mono ?_
          rintro e w4 ⟨rfl, rfl⟩
          go_wp2
          go_ret2
          exact ⟨by rw [← HR.out]; simp, HB3.out⟩
        · refine (HLk.out m3 false _ HMl.out.2.2.2 HB3.out (by rw [HBs.out.2.2.2]; rfl)).mono ?_
          rintro e w4 ⟨rfl, rfl⟩
          go_wp2
          rw [rounds_succ]
          go_wp2
          go_ret2
          exact ⟨by rw [← HR.out]; rfl, HB3.out⟩
theorem Marks_long (s : ByteArray) (z : Int) (w : World) (hs : (256 : Int) < (s.size : Int)) :
    Calls Try.prog 9 #[.string s, .int .i64 z] w fun e w' => e = .returned (.tuple #[.slice none 0 0, .int .i64 3]) ∧ w' = w := by
  have g1 : decide ((256 : Int) < (s.size : Int)) = true := decide_eq_true hs
  clear hs
  go_enter Try.func9, Try.ntmps9
  go_wp2_with fail
  refine (tooLong_any s _).mono ?_
  rintro e w2 ⟨rfl, rfl⟩
  rw [g1]
  go_wp2
  go_ret2
  exact ⟨rfl, rfl⟩
theorem Marks_arg (s : ByteArray) (z : Int) (w : World) (hs : (s.size : Int) ≤ 256) (hz : z < 1 ∨ 65536 < z) :
    Calls Try.prog 9 #[.string s, .int .i64 z] w fun e w' => e = .returned (.tuple #[.slice none 0 0, .int .i64 2]) ∧ w' = w := by
  have g1 : decide ((256 : Int) < (s.size : Int)) = false := decide_eq_false (by omega)
  clear hs
  rcases hz with h | h
  · go_enter Try.func9, Try.ntmps9
    go_wp2_with fail
    refine (tooLong_any s _).mono ?_
    rintro e w2 ⟨rfl, rfl⟩
    rw [g1]
    go_wp2
    go_ret2
    exact ⟨rfl, rfl⟩
  · have h' : ¬ (z < 1) := by omega
    go_enter Try.func9, Try.ntmps9
    go_wp2_with fail
    refine (tooLong_any s _).mono ?_
    rintro e w2 ⟨rfl, rfl⟩
    rw [g1]
    go_wp2
    go_ret2
    exact ⟨rfl, rfl⟩
/-- Numbers as cells. -/
def Is (l : List Nat) : List Value := l.map fun n : Nat => Value.int .i64 (n : Int)
theorem Marks_ok (s : ByteArray) (m : Nat) (w : World) (hs : (s.size : Int) ≤ 256) (h0 : (1 : Int) ≤ (m : Int)) (hm : (m : Int) ≤ 65536) :
    Calls Try.prog 9 #[.string s, .int .i64 m] w fun e w' => ∃ g, e = .returned (.tuple #[.slice (some ⟨g, 0, none⟩) 4 4, .int .i64 0]) ∧ w'.heap[g]? = some (.cells (Is (marksN s m)).toArray 46 (0, 0)) ∧ w.heap.size ≤ g ∧ Below w.heap.size w w' := by
  have g1 : decide ((256 : Int) < (s.size : Int)) = false := decide_eq_false (by omega)
  have HMc := marks_any s m
  obtain ⟨m0, e0⟩ : ∃ a, markAt s 0 % m = a := ⟨_, rfl⟩
  obtain ⟨m1, e1⟩ : ∃ a, markAt s 1 % m = a := ⟨_, rfl⟩
  obtain ⟨m2, e2⟩ : ∃ a, markAt s 2 % m = a := ⟨_, rfl⟩
  obtain ⟨m3, e3⟩ : ∃ a, markAt s 3 % m = a := ⟨_, rfl⟩
  have HM : Hid (marksN s m = [m0, m1, m2, m3]) := by show _ = _; unfold marksN; rw [e0, e1, e2, e3]
  rw [e0, e1, e2, e3] at HMc
  have HC : Hid (∀ w : World, Calls Try.prog 18 #[.string s, .int .i64 m] w fun e w' => e = .returned (.agg #[.int .i64 m0, .int .i64 m1, .int .i64 m2, .int .i64 m3]) ∧ Below w.heap.size w w') := fun w => HMc w hs (by omega) hm
  clear HMc e0 e1 e2 e3 hs
  go_enter Try.func9, Try.ntmps9
  go_wp2_with fail
  refine (tooLong_any s _).mono ?_
  rintro e w2 ⟨rfl, rfl⟩
  rw [g1]
  go_wp2_with fail
  refine (HC.out _).mono ?_
  rintro e w3 ⟨rfl, hb3⟩
  have HB3 : Hid (Below w2.heap.size w2 w3) := hb3
  clear hb3
  go_wp2
  go_ret2
  refine ⟨w3.heap.size, rfl, ?_, HB3.out.size, below_bt HB3.out (below_alloc _ _)⟩
  rw [HM.out]
  exact heap_alloc_new w3 _
end Go.Proofs.Ytidjgilipffdpaa
namespace Go.Proofs.Ytidjgilipffdpaa
open Go.RowKit Go.WideShapes Go.ChangeShapes

structure StrRow (w : World) (v : Value) (l : List ByteArray) : Prop where
  lies : ∃ q c, v = .slice q l.length c ∧ StrsIn w q l ∧ l.length ≤ c ∧ c ≤ maxLen ∧ (q = none → c = 0)
  each : ∀ s ∈ l, s.size ≤ maxLen
section
variable {P : Program} {w : World} {H : Type} {enc : TypeId × Value → H}
theorem open_strs {t e : TypeId} {n : Nat} {v : Value} {x : DataW H × List MemPlace} (ht : P.underlying t = some (.slice e)) (he : P.underlying e = some .string) (hc : P.cellsOf e = 1)
    (h : DataW.trod enc P w 0 (fun _ => true) true n t [v] = some x) : ∃ l, StrRow w v l := by
  rcases open_strings ht he hc h with ⟨hcs, _⟩ | ⟨a, len, cap, ss, hcs, _, hl, hm, hz, _, hcell, hsz⟩
  · simp only [List.cons.injEq, and_true] at hcs
    exact ⟨[], ⟨none, 0, hcs, fun h => absurd h (by simp), by simp, by unfold maxLen; omega, fun _ => rfl⟩, by simp⟩
  · simp only [List.cons.injEq, and_true] at hcs
    have hz' : ss.length = cap := by simpa using hz
    have hlen : (ss.take len).length = len := by simp; omega
    refine ⟨ss.take len, ⟨⟨some a, cap, by rw [hlen]; exact hcs, fun hp => ?_, by rw [hlen]; exact hl, hm, by simp⟩, fun s hs => hsz s (List.mem_of_mem_take hs)⟩⟩
    rw [hlen] at hp
    obtain ⟨b, o, s⟩ := a
    obtain rfl : s = none := by simpa [Addr.add] using World.cell?_spot (hcell 0 (by omega))
    refine ⟨b, o, rfl, fun i hi => ?_⟩
    rw [hlen] at hi
    rw [← add_plain, hcell i (by omega)]
    simp [List.getD, List.getElem?_take_of_lt hi]
end
def makeE (l : List ByteArray) (z : Int) : Nat := if 4096 < l.length then 4 else if longB l = true then 3 else if z < 8 ∨ 65536 < z ∨ z % 8 ≠ 0 then 2 else 0
theorem makeE_ok {l : List ByteArray} {z : Int} (h : makeE l z = 0) : l.length ≤ 4096 ∧ longB l = false ∧ 8 ≤ z ∧ z ≤ 65536 ∧ z % 8 = 0 := by
  unfold makeE at h
  split at h
  · cases h
  · split at h
    · cases h
    · split at h
      · cases h
      · rename_i h1 h2 h3
        exact ⟨by omega, by simpa using h2, by omega, by omega, by omega⟩
theorem makeE_is {l : List ByteArray} {z : Int} (h1 : l.length ≤ 4096) (h2 : longB l = false) (h3 : 8 ≤ z) (h4 : z ≤ 65536) (h5 : z % 8 = 0) : makeE l z = 0 := by
  unfold makeE
  rw [if_neg (by omega), if_neg (by simp [h2]), if_neg (by omega)]
theorem makeE_range (l : List ByteArray) (z : Int) : makeE l z ≤ 4 := by
  unfold makeE
  split
  · omega
  · split
    · omega
    · split <;> omega
/-- What Make answers. -/
structure Made (w w' : World) (v : Value) (l : List ByteArray) (z : Int) : Prop where
  no : makeE l z ≠ 0 → v = .slice none 0 0
  yes : makeE l z = 0 → ∃ g, v = .slice (some ⟨g, 0, none⟩) (z.toNat / 8) (z.toNat / 8) ∧ w'.heap[g]? = some (.cells (Bs (makeN l z.toNat)).toArray 5 (0, 0)) ∧ w.heap.size ≤ g
  below : Below w.heap.size w w'
theorem Make_u (q : Option Addr) (n c : Nat) (l : List ByteArray) (z : Int) (w : World) (hn : n = l.length) (hl : StrsIn w q l) (E : Nat) (hE : makeE l z = E) :
    Calls Try.prog 10 #[.slice q n c, .int .i64 z] w fun e w' => ∃ v, e = .returned (.tuple #[v, .int .i64 E]) ∧ Made w w' v l z := by
  subst hE
  by_cases h1 : 4096 < l.length
  · have e : makeE l z = 4 := by unfold makeE; rw [if_pos h1]
    rw [e]
    refine (Make_many q n c z w (by omega)).mono ?_
    rintro _ w' ⟨rfl, rfl⟩
    exact ⟨_, rfl, fun _ => rfl, fun h => (by rw [e] at h; cases h), Below.refl _ _⟩
  · cases h2 : longB l with
    | true =>
      have e : makeE l z = 3 := by unfold makeE; rw [if_neg h1, if_pos h2]
      rw [e]
      refine (Make_long q n c z l w hn hl (by omega) h2).mono ?_
      rintro _ w' ⟨rfl, rfl⟩
      exact ⟨_, rfl, fun _ => rfl, fun h => (by rw [e] at h; cases h), Below.refl _ _⟩
    | false =>
      by_cases h3 : z < 8 ∨ 65536 < z ∨ z % 8 ≠ 0
      · have e : makeE l z = 2 := by unfold makeE; rw [if_neg h1, if_neg (by simp [h2]), if_pos h3]
        rw [e]
        refine (Make_arg q n c z l w hn hl (by omega) h2 h3).mono ?_
        rintro _ w' ⟨rfl, rfl⟩
        exact ⟨_, rfl, fun _ => rfl, fun h => (by rw [e] at h; cases h), Below.refl _ _⟩
      · have e : makeE l z = 0 := makeE_is (by omega) h2 (by omega) (by omega) (by omega)
        rw [e]
        obtain ⟨m, rfl⟩ : ∃ m : Nat, z = m := ⟨z.toNat, by omega⟩
        refine (Make_ok q n c m l w hn hl (by omega) h2 (by omega) (by omega) (by omega)).mono ?_
        rintro _ w' ⟨g, rfl, hf⟩
        exact ⟨_, rfl, fun h => absurd e h, fun _ => ⟨g, by simp, by simpa using hf.blk, hf.ge⟩, hf.below⟩
theorem below_dr (w : World) (n : Nat) : Below w.heap.size w (w.drewN n) := ⟨rfl, rfl, rfl, Nat.le_refl _, fun _ _ => rfl⟩
theorem is_cell {w : World} {g : Nat} {l : List Nat} {t : TypeId} (h : w.heap[g]? = some (.cells (Is l).toArray t (0, 0))) {k : Nat} (hk : k < l.length) : w.cell? ⟨g, k, none⟩ = some (.int .i64 (l.getD k 0 : Nat)) := by
  rw [Lib.cell_of_heap h]
  simp [Is, List.getD, List.getElem?_eq_getElem hk]
def keyA : ByteArray := ⟨#[97]⟩
theorem made_a : makeN [keyA] 8 = [15] := by decide +kernel
theorem has_a : hasB [15] keyA = true := by decide +kernel
theorem strs_one (w : World) (s : ByteArray) (e : TypeId) : StrsIn (w.alloc (.cells #[.string s] e)) (some ⟨w.heap.size, 0, none⟩) [s] := by
  intro _
  refine ⟨w.heap.size, 0, rfl, fun i hi => ?_⟩
  have hh := heap_alloc_new w (.cells #[.string s] e)
  obtain rfl : i = 0 := by simpa using hi
  rw [Lib.cell_of_heap hh]
  simp
set_option maxRecDepth 8000 in
set_option maxHeartbeats 1000000 in
theorem alive_any (w : World) : Calls Try.prog 12 #[] w fun e w' => e = .returned (.bool true) ∧ Below w.heap.size w w' := by
  have HS : Hid (StrsIn (w.alloc (.cells #[.string ⟨#[97]⟩] 9)) (some ⟨w.heap.size, 0, none⟩) [keyA]) := strs_one w keyA 9
  go_enter Try.func12, Try.ntmps12
  go_wp2_with fail
  refine (Make_ok (some ⟨w.heap.size, 0, none⟩) 1 1 8 [keyA] _ rfl HS.out (by decide) (by decide +kernel) (by decide) (by decide) (by decide)).mono ?_
  rintro e w1 ⟨g, rfl, hf⟩
  rw [made_a] at hf
  have c0 : w1.cell? ⟨g, 0, none⟩ = some (.int .u8 15) := by rw [Lib.cell_of_heap hf.blk]; rfl
  have HB1 : Hid (Below w.heap.size w w1) := below_bt (below_alloc _ _) hf.below
  have HI : Hid (BIn w1 (some ⟨g, 0, none⟩) [15]) := bin_row hf.blk hf.lt
  clear hf
  go_wp2_with fail
  refine (Has_ok (some ⟨g, 0, none⟩) 1 1 [15] ⟨#[97]⟩ _ rfl HI.out (by decide) (by decide) (by decide) true has_a).mono ?_
  rintro e w2 ⟨rfl, hb2⟩
  have c1 : w2.cell? ⟨g, 0, none⟩ = some (.int .u8 15) := (hb2.cell (World.block_lt_of_cell? _ _ c0)).trans c0
  have HB2 : Hid (Below w.heap.size w w2) := below_bt HB1.out hb2
  clear hb2 c0
  go_wp2
  go_ret
  exact ⟨rfl, HB2.out⟩
end Go.Proofs.Ytidjgilipffdpaa
namespace Go.Proofs.Ytidjgilipffdpaa
open Go.RowKit Go.WideShapes

theorem row_set {w : World} {g k v : Nat} {xs : List Nat} (h : w.heap[g]? = some (.cells (Bs xs).toArray 5 (0, 0))) : (w.setCell ⟨g, k, none⟩ (.int .u8 (v : Int))).heap[g]? = some (.cells (Bs (xs.set k v)).toArray 5 (0, 0)) := by
  rw [setCell_eq_setRow w g k _ 5 _ _ h]
  have e := setRow_heap w g _ ((Bs xs).toArray.setIfInBounds k (.int .u8 (v : Int))) 5 (0, 0) h
  rw [e, ← getD_set_bs]
  simp
theorem row_other {w : World} {g k g' : Nat} {v : Value} (hne : g' ≠ g) : (w.setCell ⟨g, k, none⟩ v).heap[g']? = w.heap[g']? := heap_setCell_other w ⟨g, k, none⟩ g' v hne
theorem row_cell {w : World} {g k : Nat} {xs : List Nat} (h : w.heap[g]? = some (.cells (Bs xs).toArray 5 (0, 0))) (hk : k < xs.length) : w.cell? ⟨g, k, none⟩ = some (.int .u8 (xs.getD k 0 : Nat)) := by
  rw [Lib.cell_of_heap h]
  simp [Bs, List.getD, List.getElem?_eq_getElem hk]
theorem getD_set_same {xs : List Nat} {k v : Nat} (hk : k < xs.length) : (xs.set k v).getD k 0 = v := by
  rw [List.getD_eq_getElem?_getD, List.getElem?_set_self hk]; rfl
theorem getD_set_diff {xs : List Nat} {k j v : Nat} (h : j ≠ k) : (xs.set k v).getD j 0 = xs.getD j 0 := by
  rw [List.getD_eq_getElem?_getD, List.getElem?_set_ne (fun e => h e.symm), ← List.getD_eq_getElem?_getD]
theorem set_lt {xs : List Nat} {k v : Nat} (h : ∀ c ∈ xs, c < 256) (hv : v < 256) : ∀ c ∈ xs.set k v, c < 256 := by
  intro c hc
  rcases List.mem_or_eq_of_mem_set hc with h1 | rfl
  · exact h c h1
  · exact hv
/-- What the k-th byte of both is. -/
def orN (xs ys : List Nat) (j : Nat) : Nat := if j < ys.length then xs.getD j 0 ||| ys.getD j 0 else xs.getD j 0
theorem orN_lt {xs ys : List Nat} (hx : ∀ c ∈ xs, c < 256) (hy : ∀ c ∈ ys, c < 256) (j : Nat) : orN xs ys j < 256 := by
  unfold orN
  split
  · exact Nat.or_lt_two_pow (n := 8) (getD_lt hx j) (getD_lt hy j)
  · exact getD_lt hx j
/-- The three rows of SieveBits: of zeros, of 255 up to k, of both up to k. -/
structure Tri (w0 w : World) (g1 g2 g3 n k : Nat) (xs ys A C : List Nat) : Prop where
  z : w.heap[g1]? = some (.cells (Bs (List.replicate n 0)).toArray 5 (0, 0))
  f : w.heap[g2]? = some (.cells (Bs A).toArray 5 (0, 0))
  b : w.heap[g3]? = some (.cells (Bs C).toArray 5 (0, 0))
  la : A.length = n
  lc : C.length = n
  fa : ∀ j, j < k → A.getD j 0 = 255
  fc : ∀ j, j < k → C.getD j 0 = orN xs ys j
  ta : ∀ c ∈ A, c < 256
  tc : ∀ c ∈ C, c < 256
  below : Below w0.heap.size w0 w
  n1 : w0.heap.size ≤ g1
  n2 : w0.heap.size ≤ g2
  n3 : w0.heap.size ≤ g3
  d12 : g1 ≠ g2
  d13 : g1 ≠ g3
  d23 : g2 ≠ g3
theorem Tri.step {w0 w : World} {g1 g2 g3 n k : Nat} {xs ys A C : List Nat} (h : Tri w0 w g1 g2 g3 n k xs ys A C) (hk : k < n) (x : Nat) (hx : x < 256) (he : x = orN xs ys k) {w' : World}
    (e1 : ∀ g, g ≠ g2 → g ≠ g3 → w'.heap[g]? = w.heap[g]?) (e2 : w'.heap[g2]? = some (.cells (Bs (A.set k 255)).toArray 5 (0, 0))) (e3 : w'.heap[g3]? = some (.cells (Bs (C.set k x)).toArray 5 (0, 0))) (hb : Below w0.heap.size w0 w') :
    Tri w0 w' g1 g2 g3 n (k + 1) xs ys (A.set k 255) (C.set k x) := by
  refine ⟨(e1 g1 h.d12 h.d13).trans h.z, e2, e3, by rw [List.length_set]; exact h.la, by rw [List.length_set]; exact h.lc, fun j hj => ?_, fun j hj => ?_, set_lt h.ta (by decide), set_lt h.tc hx, hb, h.n1, h.n2, h.n3, h.d12, h.d13, h.d23⟩
  · by_cases e : j = k
    · subst e; exact getD_set_same (by rw [h.la]; exact hk)
    · rw [getD_set_diff e]; exact h.fa j (by omega)
  · by_cases e : j = k
    · subst e; rw [getD_set_same (by rw [h.lc]; exact hk)]; exact he
    · rw [getD_set_diff e]; exact h.fc j (by omega)
theorem Tri.two {w0 w : World} {g1 g2 g3 n k : Nat} {xs ys A C : List Nat} (h : Tri w0 w g1 g2 g3 n k xs ys A C) (hk : k < n) (x : Nat) (hx : x < 256) (he : x = orN xs ys k) :
    Tri w0 ((w.setCell ⟨g2, k, none⟩ (.int .u8 255)).setCell ⟨g3, k, none⟩ (.int .u8 (x : Int))) g1 g2 g3 n (k + 1) xs ys (A.set k 255) (C.set k x) := by
  refine h.step hk x hx he (fun g e2 e3 => ?_) ?_ ?_ ?_
  · rw [row_other e3, row_other e2]
  · rw [row_other h.d23]
    exact row_set (v := 255) h.f
  · exact row_set ((row_other h.d23.symm).trans h.b)
  · exact (h.below.setCell (p := ⟨g2, k, none⟩) h.n2 _).setCell (p := ⟨g3, k, none⟩) h.n3 _
theorem Tri.three {w0 w : World} {g1 g2 g3 n k : Nat} {xs ys A C : List Nat} (h : Tri w0 w g1 g2 g3 n k xs ys A C) (hk : k < n) (y x : Nat) (hx : x < 256) (he : x = orN xs ys k) :
    Tri w0 (((w.setCell ⟨g2, k, none⟩ (.int .u8 255)).setCell ⟨g3, k, none⟩ (.int .u8 (y : Int))).setCell ⟨g3, k, none⟩ (.int .u8 (x : Int))) g1 g2 g3 n (k + 1) xs ys (A.set k 255) (C.set k x) := by
  refine h.step hk x hx he (fun g e2 e3 => ?_) ?_ ?_ ?_
  · rw [row_other e3, row_other e3, row_other e2]
  · rw [row_other h.d23, row_other h.d23]
    exact row_set (v := 255) h.f
  · have e := row_set (k := k) (v := x) (row_set (k := k) (v := y) ((row_other (k := k) (v := .int .u8 255) h.d23.symm).trans h.b))
    rw [List.set_set] at e
    exact e
  · exact ((h.below.setCell (p := ⟨g2, k, none⟩) h.n2 _).setCell (p := ⟨g3, k, none⟩) h.n3 _).setCell (p := ⟨g3, k, none⟩) h.n3 _
theorem Tri.drew {w0 w : World} {g1 g2 g3 n k : Nat} {xs ys A C : List Nat} (h : Tri w0 w g1 g2 g3 n k xs ys A C) : Tri w0 w.drew g1 g2 g3 n k xs ys A C := ⟨h.z, h.f, h.b, h.la, h.lc, h.fa, h.fc, h.ta, h.tc, h.below.drew, h.n1, h.n2, h.n3, h.d12, h.d13, h.d23⟩
theorem Tri.full {w0 w : World} {g1 g2 g3 n : Nat} {xs ys A C : List Nat} (h : Tri w0 w g1 g2 g3 n n xs ys A C) : A = List.replicate n 255 :=
  nums_ext (by rw [h.la]; simp) (fun i hi => by rw [h.fa i (by rw [← h.la]; exact hi)]; rw [h.la] at hi; simp [List.getD, hi])
theorem Tri.more {w0 w : World} {g1 g2 g3 n : Nat} {xs ys A C : List Nat} (h : Tri w0 w g1 g2 g3 n n xs ys A C) (hn : xs.length = n) (s : ByteArray) (hb : hasB xs s = true) : hasB C s = true :=
  has_more (by rw [h.lc, hn]) (fun i hi => by
    rw [h.fc i (by omega)]
    unfold orN
    split
    · exact ⟨_, rfl⟩
    · exact ⟨0, by simp⟩) s hb
theorem three_at (w : World) (o : Obj) (g : Nat) (h1 : w.heap.size ≤ g) (h2 : g ≤ w.heap.size + 2) : (((w.alloc o).alloc o).alloc o).drew.heap[g]? = some o := by
  show (((w.alloc o).alloc o).alloc o).heap[g]? = some o
  have e : g = w.heap.size ∨ g = w.heap.size + 1 ∨ g = w.heap.size + 2 := by omega
  rcases e with rfl | rfl | rfl
  · rw [heap_alloc_old _ _ (by simp; omega), heap_alloc_old _ _ (by simp), heap_alloc_new]
  · rw [heap_alloc_old _ _ (by simp)]
    have := heap_alloc_new (w.alloc o) o
    simpa using this
  · have := heap_alloc_new ((w.alloc o).alloc o) o
    simpa using this
theorem tri0 (w : World) (Z : Array Value) (n g1 g2 g3 : Nat) (xs ys : List Nat) (hZ : (Bs (List.replicate n 0)).toArray = Z) (a1 : w.heap.size ≤ g1 ∧ g1 ≤ w.heap.size + 2) (a2 : w.heap.size ≤ g2 ∧ g2 ≤ w.heap.size + 2) (a3 : w.heap.size ≤ g3 ∧ g3 ≤ w.heap.size + 2) (d1 : g1 ≠ g2) (d2 : g1 ≠ g3) (d3 : g2 ≠ g3) :
    Tri w (((w.alloc (.cells Z 5)).alloc (.cells Z 5)).alloc (.cells Z 5)).drew g1 g2 g3 n 0 xs ys (List.replicate n 0) (List.replicate n 0) := by
  subst hZ
  have hz : ∀ c ∈ List.replicate n 0, c < 256 := by intro c hc; have := List.eq_of_mem_replicate hc; omega
  exact ⟨three_at _ _ _ a1.1 a1.2, three_at _ _ _ a2.1 a2.2, three_at _ _ _ a3.1 a3.2, by simp, by simp, fun j hj => absurd hj (by omega), fun j hj => absurd hj (by omega), hz, hz,
    (((((Below.refl _ _).alloc (Nat.le_refl _) _).alloc (by simp) _).alloc (by simp; omega) _)).drew, a1.1, a2.1, a3.1, d1, d2, d3⟩
end Go.Proofs.Ytidjgilipffdpaa
namespace Go.Proofs.Ytidjgilipffdpaa.sieveNames
open Go.ChangeShapes Go.WideShapes Go.ChangeAt Go.RowKit
open Go.ChangeMaps (open_string shut_string)
set_option linter.unusedVariables false

theorem own : ownKnob Try.prog.godebug = none := by kernel_rfl
theorem laidOut : laidOutB Try.prog = true := by kernel_rfl

theorem ex1 : marksN ⟨#[]⟩ 100 = [0, 35, 74, 9] := by decide +kernel
theorem ex2 : marksN ⟨#[97]⟩ 8 = [3, 2, 1, 0] := by decide +kernel
theorem ex3 : makeN [] 16 = [0, 0] := by decide +kernel
theorem ex4 : hasB [0] ⟨#[97]⟩ = false := by decide +kernel
theorem ex5 : strOf [0, 0] = ⟨#[0, 0]⟩ := by decide +kernel
theorem none_in (w : World) : StrsIn w none [] := fun h => absurd h (by simp)
set_option maxRecDepth 20000 in
set_option maxHeartbeats 8000000 in
theorem walk (w : World) :
    Calls Try.prog 3 #[] w fun e w' => e = .returned (.bool true) ∧ Below w.heap.size w w' := by
  have hmk0 := run_make_row' (P := Try.prog) 26 5 (.int .u8 0) 1 Try.underlying26 info5 rfl .i64 .i64 257 (by omega) (by omega)
  have HMC : Hid (madeCells #[Value.int .u8 0] 257 = (Bs (List.replicate 257 0)).toArray) := by
    show _ = _
    rw [← zeros_made, Array.toArray_toList]
  rw [HMC.out] at hmk0
  obtain ⟨N, hN⟩ : ∃ N, 257 = N := ⟨_, rfl⟩
  rw [show (Bs (List.replicate 257 0)).toArray = (Bs (List.replicate N 0)).toArray from by rw [hN]] at hmk0
  obtain ⟨Z, hZ⟩ : ∃ Z, (Bs (List.replicate N 0)).toArray = Z := ⟨_, rfl⟩
  rw [hZ] at hmk0
  have hmk : ∀ w : World, (Instr.makeSlice 26 (.int .i64 257) (.int .i64 257)).run Try.prog w = .ok (.slice (some ⟨w.heap.size, 0, none⟩) 257 257) (w.alloc (.cells Z 5)) := hmk0
  have HZ : Hid ((Bs (List.replicate N 0)).toArray = Z ∧ 257 = N) := ⟨hZ, hN⟩
  clear hmk0 hZ hN HMC
  go_enter Try.func3, Try.ntmps3
  go_wp2_with fail
  refine (Marks_ok ⟨#[]⟩ 100 _ (by decide) (by decide) (by decide)).mono ?_
  rintro e w1 ⟨g1, rfl, hg1, _, hb1⟩
  rw [ex1] at hg1
  have HG1 : Hid (w1.heap[g1]? = some (.cells (Is [0, 35, 74, 9]).toArray 46 (0, 0))) := hg1
  have HB1 : Hid (Below w.heap.size w w1) := hb1
  clear hb1 hg1
  go_wp2_with fail
  refine (Marks_ok ⟨#[97]⟩ 8 _ (by decide) (by decide) (by decide)).mono ?_
  rintro e w2 ⟨g2, rfl, hg2, _, hb2⟩
  rw [ex2] at hg2
  have HG2 : Hid (w2.heap[g1]? = some (.cells (Is [0, 35, 74, 9]).toArray 46 (0, 0)) ∧ w2.heap[g2]? = some (.cells (Is [3, 2, 1, 0]).toArray 46 (0, 0))) := ⟨(hb2.block _ (lt_heap HG1.out)).trans HG1.out, hg2⟩
  have HB2 : Hid (Below w.heap.size w w2) := below_bt HB1.out hb2
  clear hb2 hg2
  go_wp2_with fail
  refine (Make_ok none 0 0 16 [] _ rfl (none_in _) (by decide) rfl (by decide) (by decide) (by decide)).mono ?_
  rintro e w3 ⟨g3, rfl, hf3⟩
  rw [ex3] at hf3
  have HG3 : Hid (w3.heap[g1]? = some (.cells (Is [0, 35, 74, 9]).toArray 46 (0, 0)) ∧ w3.heap[g2]? = some (.cells (Is [3, 2, 1, 0]).toArray 46 (0, 0)) ∧ BIn w3 (some ⟨g3, 0, none⟩) [0, 0]) := ⟨(hf3.below.block _ (lt_heap HG2.out.1)).trans HG2.out.1, (hf3.below.block _ (lt_heap HG2.out.2)).trans HG2.out.2, bin_row hf3.blk hf3.lt⟩
  have HB3 : Hid (Below w.heap.size w w3) := below_bt HB2.out hf3.below
  have HI3 : Hid (BIn (w3.alloc (.cells #[.int .u8 0] 5)) (some ⟨w3.heap.size, 0, none⟩) [0]) := bin_row (t := 5) (heap_alloc_new w3 _) (by simp)
  clear hf3
  go_wp2_with fail
  refine (Has_ok (some ⟨w3.heap.size, 0, none⟩) 1 1 [0] ⟨#[97]⟩ _ rfl HI3.out (by decide) (by decide) (by decide) false ex4).mono ?_
  rintro e w4 ⟨rfl, hb4⟩
  have HB34 : Hid (Below w3.heap.size w3 w4) := below_bt (below_alloc _ _) hb4
  clear hb4
  go_wp2_with fail
  refine (Make_arg none 0 0 12 [] _ rfl (none_in _) (by decide) rfl (.inr (.inr (by decide)))).mono ?_
  rintro e w5 ⟨rfl, rfl⟩
  go_wp2_with fail
  refine (Has_arg none 0 0 ⟨#[97]⟩ _ (.inl (by decide))).mono ?_
  rintro e w6 ⟨rfl, rfl⟩
  obtain ⟨S, hS⟩ : ∃ S, strOf (List.replicate N 0) = S := ⟨_, rfl⟩
  have hSz : S.size = 257 := by rw [← hS, strOf_size, List.length_replicate]; exact HZ.out.2.symm
  have HSz : Hid ((256 : Int) < (S.size : Int)) := by show _ < _; omega
  have hcv : (convert 26 9 (.slice (some ⟨w6.heap.size, 0, none⟩) 257 257)).run Try.prog (w6.alloc (.cells Z 5)) = .ok (.string S) (w6.alloc (.cells Z 5)) := by
    rw [← hS]
    refine bin_conv Try.underlying26 Try.underlying5 Try.underlying9 (bin_row (t := 5) ?_ (by intro c hc; have := List.eq_of_mem_replicate hc; omega)) (by rw [List.length_replicate]; exact HZ.out.2) 257
    rw [HZ.out.1]
    exact heap_alloc_new w6 _
  clear hS hSz
  go_wp2_with fail
  refine (Marks_long S 8 _ HSz.out).mono ?_
  rintro e w7 ⟨rfl, rfl⟩
  have HB7 : Hid (Below w3.heap.size w3 (w6.alloc (.cells Z 5))) := below_bt HB34.out (below_alloc _ _)
  obtain ⟨w7, hw7⟩ : ∃ w7, w6.alloc (.cells Z 5) = w7 := ⟨_, rfl⟩
  rw [hw7] at HB7 ⊢
  clear hcv hmk hw7
  have k1 : w7.heap[g1]? = some (.cells (Is [0, 35, 74, 9]).toArray 46 (0, 0)) := (HB7.out.block _ (lt_heap HG3.out.1)).trans HG3.out.1
  have k2 : w7.heap[g2]? = some (.cells (Is [3, 2, 1, 0]).toArray 46 (0, 0)) := (HB7.out.block _ (lt_heap HG3.out.2.1)).trans HG3.out.2.1
  have c0 : w7.cell? ⟨g1, 0, none⟩ = some (.int .i64 0) := is_cell k1 (k := 0) (by decide)
  have c1 : w7.cell? ⟨g1, 1, none⟩ = some (.int .i64 35) := is_cell k1 (k := 1) (by decide)
  have c2 : w7.cell? ⟨g1, 2, none⟩ = some (.int .i64 74) := is_cell k1 (k := 2) (by decide)
  have c3 : w7.cell? ⟨g1, 3, none⟩ = some (.int .i64 9) := is_cell k1 (k := 3) (by decide)
  have d0 : w7.cell? ⟨g2, 0, none⟩ = some (.int .i64 3) := is_cell k2 (k := 0) (by decide)
  have d1 : w7.cell? ⟨g2, 1, none⟩ = some (.int .i64 2) := is_cell k2 (k := 1) (by decide)
  have d3 : w7.cell? ⟨g2, 3, none⟩ = some (.int .i64 0) := is_cell k2 (k := 3) (by decide)
  clear k1 k2
  go_wp2_with fail
  refine (alive_any _).mono ?_
  rintro e w8 ⟨rfl, hb8⟩
  have HB8 : Hid (Below w.heap.size w w8) := below_bt HB3.out (below_bt HB7.out hb8)
  have cv : (convert 26 9 (.slice (some ⟨g3, 0, none⟩) 2 2)).run Try.prog w8 = .ok (.string ⟨#[0, 0]⟩) w8 := by
    rw [← ex5]
    exact bin_conv Try.underlying26 Try.underlying5 Try.underlying9 ((HG3.out.2.2.below HB7.out).below hb8) rfl 2
  clear hb8
  go_wp2
  go_ret
  exact ⟨rfl, HB8.out⟩

/-! ### THE ROW's STEP -/
set_option maxRecDepth 100000 in
theorem lifted (os : Os) (started : os.Started) (H : Type) (enc : TypeId × Value → H) :
    ReturnsInHanded {} Try.checked os 3 .any (Rows.sieveNamesSpec.pre6 enc Try.prog Try.f3 Rows.sieveNamesRow.domain false) (Rows.sieveNamesSpec.post enc Try.prog Try.f3 false true false false) := by
  refine returnsInHanded_of_change (C := Try.checked) own started (by kernel_rfl) Try.func3
    (ChangeSpec.witness6 (enc := enc) (C := Try.checked) false ⟨#[], #[], []⟩ 8 (by kernel_rfl) (by kernel_rfl) (by kernel_rfl) (by kernel_rfl)) ?_
  intro W base args ds gs before hval0 hW hcnd _
  have hval : ∀ (j : Nat) t v, Try.f3.params[j]? = some t → args[j]? = some v → Value.okWide Try.prog W .any base t v := hval0
  have hW' := hW
  obtain ⟨p, q, hA0, hV, rfl, hfz, hnd⟩ := hW
  have hA : DataW.TrodAll enc Try.prog W 0 (fun _ => true) true Try.f3.params.toList args.toList ds p := hA0
  rw [Try.params3] at hA hval
  obtain ⟨hargs, rfl, rfl⟩ := trodAll_nil hA
  obtain rfl : args = #[] := by cases args; simp_all
  obtain ⟨rfl, rfl⟩ := trodVars_none hV
  clear hA0 hval0
  refine (walk  W ).mono fun e W' ⟨he, bel⟩ => ?_
  subst he
  exact ⟨_, rfl, _, _, _, [], _, [], hW', trodAll_mk1 (shut_bool Try.underlying4 _), trodAll_mk0, rfl, bel.frame _, fun h => by cases h⟩

theorem over : Rows.sieveNamesRow.holds Try.pinned (OpenSpec.ofChange Rows.sieveNamesSpec) :=
  OpenClaim.holds_of_wide 3 Try.f3 rfl rfl rfl rfl rfl rfl rfl ⟨rfl, rfl, rfl, rfl, rfl⟩ rfl rfl rfl rfl rfl (by kernel_rfl) Try.func3 (by kernel_rfl)
    (of_decide_eq_true (by kernel_rfl)) (by unfold Func.isWrapper; first | (rw [if_pos (by decide +kernel)]; kernel_rfl) | (rw [if_neg (by decide +kernel)]; exact ⟨rfl, rfl⟩))
    (fun os started H enc _ => lifted os started H enc)

theorem proved : Rows.SieveNamesSaid := over
end Go.Proofs.Ytidjgilipffdpaa.sieveNames
namespace Go.Proofs.Ytidjgilipffdpaa
theorem sieveNames_holds : Rows.SieveNamesSaid := sieveNames.proved
#print axioms sieveNames_holds
end Go.Proofs.Ytidjgilipffdpaa
