/-
  The document's marks, Marks, SameInts.
-/
import Derived.Test.YtidjgilipffdpaaJ03
import Derived.WalkKit
import Derived.OpenShut
import Derived.Deep.QuietTactic
import Derived.BigQuiet
import Derived.Laws.AppendOwnNone
namespace Go.Proofs.Ytidjgilipffdpaa
open Go.RowKit Go.WideShapes

theorem Make_many (q : Option Addr) (n c : Nat) (z : Int) (w : World) (hN : (4096 : Int) < (n : Int)) :
    Calls Try.prog 10 #[.slice q n c, .int .i64 z] w fun e w' => e = .returned (.tuple #[.slice none 0 0, .int .i64 4]) ∧ w' = w := by
  go_enter Try.func10, Try.ntmps10
  go_wp2
  go_ret2
  exact ⟨rfl, rfl⟩
theorem Make_long (q : Option Addr) (n c : Nat) (z : Int) (l : List ByteArray) (w : World) (hn : n = l.length) (hl : StrsIn w q l) (hN : (n : Int) ≤ 4096) (hlong : longB l = true) :
    Calls Try.prog 10 #[.slice q n c, .int .i64 z] w fun e w' => e = .returned (.tuple #[.slice none 0 0, .int .i64 3]) ∧ w' = w := by
  have HC := containsFunc_any q n c l w hn hl (by omega) true hlong
  clear hn hl hlong
  go_enter Try.func10, Try.ntmps10
  go_wp2_with fail
  refine HC.mono ?_
  rintro e w1 ⟨rfl, rfl⟩
  go_wp2
  go_ret2
  exact ⟨rfl, rfl⟩
theorem Make_arg (q : Option Addr) (n c : Nat) (z : Int) (l : List ByteArray) (w : World) (hn : n = l.length) (hl : StrsIn w q l) (hN : (n : Int) ≤ 4096) (hlong : longB l = false) (hz : z < 8 ∨ 65536 < z ∨ z % 8 ≠ 0) :
    Calls Try.prog 10 #[.slice q n c, .int .i64 z] w fun e w' => e = .returned (.tuple #[.slice none 0 0, .int .i64 2]) ∧ w' = w := by
  have HC := containsFunc_any q n c l w hn hl (by omega) false hlong
  clear hn hl hlong
  by_cases h1 : z < 8
  · clear hz
    go_enter Try.func10, Try.ntmps10
    go_wp2_with fail
    refine HC.mono ?_
    rintro e w1 ⟨rfl, rfl⟩
    go_wp2
    go_ret2
    exact ⟨rfl, rfl⟩
  · by_cases h2 : 65536 < z
    · clear hz
      go_enter Try.func10, Try.ntmps10
      go_wp2_with fail
      refine HC.mono ?_
      rintro e w1 ⟨rfl, rfl⟩
      go_wp2
      go_ret2
      exact ⟨rfl, rfl⟩
    · have g1 : (z % 8 != 0) = true := by simp; omega
      have h3 : 8 ≤ z := by omega
      have h4 : z ≤ 65536 := by omega
      clear hz h1 h2
      go_enter Try.func10, Try.ntmps10
      go_wp2_with fail
      refine HC.mono ?_
      rintro e w1 ⟨rfl, rfl⟩
      go_wp2
      go_ret2
      exact ⟨rfl, rfl⟩
theorem Has_arg (p : Option Addr) (L cap : Nat) (s : ByteArray) (w : World) (h : (L : Int) < 1 ∨ (8192 : Int) < (L : Int)) :
    Calls Try.prog 11 #[.slice p L cap, .string s] w fun e w' => e = .returned (.tuple #[.bool false, .int .i64 2]) ∧ w' = w := by
  rcases h with h | h
  · go_enter Try.func11, Try.ntmps11
    go_wp2
    go_ret2
    exact ⟨rfl, rfl⟩
  · have h' : ¬ ((L : Int) < 1) := by omega
    go_enter Try.func11, Try.ntmps11
    go_wp2
    go_ret2
    exact ⟨rfl, rfl⟩
theorem Has_long (p : Option Addr) (L cap : Nat) (s : ByteArray) (w : World) (h1 : (1 : Int) ≤ (L : Int)) (h2 : (L : Int) ≤ 8192) (hs : (256 : Int) < (s.size : Int)) :
    Calls Try.prog 11 #[.slice p L cap, .string s] w fun e w' => e = .returned (.tuple #[.bool false, .int .i64 3]) ∧ w' = w := by
  have g1 : decide ((256 : Int) < (s.size : Int)) = true := decide_eq_true hs
  clear hs
  go_enter Try.func11, Try.ntmps11
  go_wp2_with fail
  refine (tooLong_any s _).mono ?_
  rintro e w2 ⟨rfl, rfl⟩
  rw [g1]
  go_wp2
  go_ret2
  exact ⟨rfl, rfl⟩
set_option maxRecDepth 8000 in
set_option maxHeartbeats 4000000 in
theorem Has_ok (p : Option Addr) (L cap : Nat) (xs : List Nat) (s : ByteArray) (w : World) (hL : L = xs.length) (hb : BIn w p xs) (h1 : (1 : Int) ≤ (L : Int)) (h2 : (L : Int) ≤ 8192) (hs : (s.size : Int) ≤ 256) (r : Bool) (hr : hasB xs s = r) :
    Calls Try.prog 11 #[.slice p L cap, .string s] w fun e w' => e = .returned (.tuple #[.bool r, .int .i64 0]) ∧ Below w.heap.size w w' := by
  have g1 : decide ((256 : Int) < (s.size : Int)) = false := decide_eq_false (by omega)
  obtain ⟨m, hm⟩ : ∃ m, 8 * L = m := ⟨_, rfl⟩
  have hmI : (8 : Int) * (L : Int) = (m : Int) := by omega
  obtain ⟨m0, e0⟩ : ∃ a, markAt s 0 % m = a := ⟨_, rfl⟩
  obtain ⟨m1, e1⟩ : ∃ a, markAt s 1 % m = a := ⟨_, rfl⟩
  obtain ⟨m2, e2⟩ : ∃ a, markAt s 2 % m = a := ⟨_, rfl⟩
  obtain ⟨m3, e3⟩ : ∃ a, markAt s 3 % m = a := ⟨_, rfl⟩
  have HM : Hid (marksN s m = [m0, m1, m2, m3]) := by show _ = _; unfold marksN; rw [e0, e1, e2, e3]
  have HMl : Hid (m0 < m ∧ m1 < m ∧ m2 < m ∧ m3 < m) := by
    have h := marksN_lt s m (by omega)
    rw [HM.out] at h
    exact ⟨h _ (by simp), h _ (by simp), h _ (by simp), h _ (by simp)⟩
  have HMk := marks_any s m
  rw [e0, e1, e2, e3] at HMk
  have HMc : Hid (∀ w : World, Calls Try.prog 18 #[.string s, .int .i64 m] w fun e w' => e = .returned (.agg #[.int .i64 m0, .int .i64 m1, .int .i64 m2, .int .i64 m3]) ∧ Below w.heap.size w w') := fun w => HMk w hs (by omega) (by omega)
  have HR : Hid ((((xs.getD (m0 / 8) 0).testBit (m0 % 8)) && (((xs.getD (m1 / 8) 0).testBit (m1 % 8)) && (((xs.getD (m2 / 8) 0).testBit (m2 % 8)) && ((xs.getD (m3 / 8) 0).testBit (m3 % 8))))) = r) := by
    show _ = _
    rw [← hr]
    unfold hasB
    rw [← hL, hm, HM.out]
    simp
  have HLk : Hid (∀ (n : Nat) (r : Bool) (w' : World), n < m → Below w.heap.size w w' → (xs.getD (n / 8) 0).testBit (n % 8) = (!r) → Calls Try.prog 21 #[.slice p L cap, .int .i64 n] w' fun e w2 => e = .returned (.bool r) ∧ w2 = w') := fun n r w' hn hbl hr => lacks_any p L cap n xs w' hL (hb.below hbl) (by omega) (by omega) r hr
  obtain ⟨b0, hb0⟩ : ∃ b, (xs.getD (m0 / 8) 0).testBit (m0 % 8) = b := ⟨_, rfl⟩
  obtain ⟨b1, hb1⟩ : ∃ b, (xs.getD (m1 / 8) 0).testBit (m1 % 8) = b := ⟨_, rfl⟩
  obtain ⟨b2, hb2⟩ : ∃ b, (xs.getD (m2 / 8) 0).testBit (m2 % 8) = b := ⟨_, rfl⟩
  obtain ⟨b3, hb3⟩ : ∃ b, (xs.getD (m3 / 8) 0).testBit (m3 % 8) = b := ⟨_, rfl⟩
  rw [hb0, hb1, hb2, hb3] at HR
  have HBs : Hid ((xs.getD (m0 / 8) 0).testBit (m0 % 8) = b0 ∧ (xs.getD (m1 / 8) 0).testBit (m1 % 8) = b1 ∧ (xs.getD (m2 / 8) 0).testBit (m2 % 8) = b2 ∧ (xs.getD (m3 / 8) 0).testBit (m3 % 8) = b3) := ⟨hb0, hb1, hb2, hb3⟩
  clear hb0 hb1 hb2 hb3 e0 e1 e2 e3 HMk hr hm hb hL HM
  have i0 : ∀ w, (Instr.index 46 (.agg #[.int .i64 m0, .int .i64 m1, .int .i64 m2, .int .i64 m3]) (.int .i64 0)).run Try.prog w = .ok (.int .i64 m0) w := fun _ => by kernel_rfl
  have i1 : ∀ w, (Instr.index 46 (.agg #[.int .i64 m0, .int .i64 m1, .int .i64 m2, .int .i64 m3]) (.int .i64 1)).run Try.prog w = .ok (.int .i64 m1) w := fun _ => by kernel_rfl
  have i2 : ∀ w, (Instr.index 46 (.agg #[.int .i64 m0, .int .i64 m1, .int .i64 m2, .int .i64 m3]) (.int .i64 2)).run Try.prog w = .ok (.int .i64 m2) w := fun _ => by kernel_rfl
  have i3 : ∀ w, (Instr.index 46 (.agg #[.int .i64 m0, .int .i64 m1, .int .i64 m2, .int .i64 m3]) (.int .i64 3)).run Try.prog w = .ok (.int .i64 m3) w := fun _ => by kernel_rfl
  go_enter Try.func11, Try.ntmps11
  go_wp2_with fail
  refine (tooLong_any s _).mono ?_
  rintro e w2 ⟨rfl, rfl⟩
  rw [g1]
  go_wp2_with fail
  refine (HMc.out _).mono ?_
  rintro e w3 ⟨rfl, hb3⟩
  have HB3 : Hid (Below w2.heap.size w2 w3) := hb3
  clear hb3
  go_wp2
  refine wp_loop_rounds 5 ?_
  rw [rounds_succ]
  go_wp2_with fail
  cases b0
  · refine (HLk.out m0 true _ HMl.out.1 HB3.out (by rw [HBs.out.1]; rfl)).mono ?_
    rintro e w4 ⟨rfl, rfl⟩
    go_wp2
    go_ret2
    exact ⟨by rw [← HR.out]; simp, HB3.out⟩
  · refine (HLk.out m0 false _ HMl.out.1 HB3.out (by rw [HBs.out.1]; rfl)).mono ?_
    rintro e w4 ⟨rfl, rfl⟩
    go_wp2
    rw [rounds_succ]
    go_wp2_with fail
    cases b1
    · refine (HLk.out m1 true _ HMl.out.2.1 HB3.out (by rw [HBs.out.2.1]; rfl)).mono ?_
      rintro e w4 ⟨rfl, rfl⟩
      go_wp2
      go_ret2
      exact ⟨by rw [← HR.out]; simp, HB3.out⟩
    · refine (HLk.out m1 false _ HMl.out.2.1 HB3.out (by rw [HBs.out.2.1]; rfl)).mono ?_
      rintro e w4 ⟨rfl, rfl⟩
      go_wp2
      rw [rounds_succ]
      go_wp2_with fail
      cases b2
      · refine (HLk.out m2 true _ HMl.out.2.2.1 HB3.out (by rw [HBs.out.2.2.1]; rfl)).mono ?_
        rintro e w4 ⟨rfl, rfl⟩
        go_wp2
        go_ret2
        exact ⟨by rw [← HR.out]; simp, HB3.out⟩
      · refine (HLk.out m2 false _ HMl.out.2.2.1 HB3.out (by rw [HBs.out.2.2.1]; rfl)).mono ?_
        rintro e w4 ⟨rfl, rfl⟩
        go_wp2
        rw [rounds_succ]
        go_wp2_with fail
        cases b3
        · refine (HLk.out m3 true _ HMl.out.2.2.2 HB3.out (by rw [HBs.out.2.2.2]; rfl)).mono ?_
          rintro e w4 ⟨rfl, rfl⟩
          go_wp2
          go_ret2
          exact ⟨by rw [← HR.out]; simp, HB3.out⟩
        · refine (HLk.out m3 false _ HMl.out.2.2.2 HB3.out (by rw [HBs.out.2.2.2]; rfl)).mono ?_
          rintro e w4 ⟨rfl, rfl⟩
          go_wp2
          rw [rounds_succ]
          go_wp2
          go_ret2
          exact ⟨by rw [← HR.out]; rfl, HB3.out⟩
theorem Marks_long (s : ByteArray) (z : Int) (w : World) (hs : (256 : Int) < (s.size : Int)) :
    Calls Try.prog 9 #[.string s, .int .i64 z] w fun e w' => e = .returned (.tuple #[.slice none 0 0, .int .i64 3]) ∧ w' = w := by
  have g1 : decide ((256 : Int) < (s.size : Int)) = true := decide_eq_true hs
  clear hs
  go_enter Try.func9, Try.ntmps9
  go_wp2_with fail
  refine (tooLong_any s _).mono ?_
  rintro e w2 ⟨rfl, rfl⟩
  rw [g1]
  go_wp2
  go_ret2
  exact ⟨rfl, rfl⟩
theorem Marks_arg (s : ByteArray) (z : Int) (w : World) (hs : (s.size : Int) ≤ 256) (hz : z < 1 ∨ 65536 < z) :
    Calls Try.prog 9 #[.string s, .int .i64 z] w fun e w' => e = .returned (.tuple #[.slice none 0 0, .int .i64 2]) ∧ w' = w := by
  have g1 : decide ((256 : Int) < (s.size : Int)) = false := decide_eq_false (by omega)
  clear hs
  rcases hz with h | h
  · go_enter Try.func9, Try.ntmps9
    go_wp2_with fail
    refine (tooLong_any s _).mono ?_
    rintro e w2 ⟨rfl, rfl⟩
    rw [g1]
    go_wp2
    go_ret2
    exact ⟨rfl, rfl⟩
  · have h' : ¬ (z < 1) := by omega
    go_enter Try.func9, Try.ntmps9
    go_wp2_with fail
    refine (tooLong_any s _).mono ?_
    rintro e w2 ⟨rfl, rfl⟩
    rw [g1]
    go_wp2
    go_ret2
    exact ⟨rfl, rfl⟩
/-- Numbers as cells. -/
def Is (l : List Nat) : List Value := l.map fun n : Nat => Value.int .i64 (n : Int)
theorem Marks_ok (s : ByteArray) (m : Nat) (w : World) (hs : (s.size : Int) ≤ 256) (h0 : (1 : Int) ≤ (m : Int)) (hm : (m : Int) ≤ 65536) :
    Calls Try.prog 9 #[.string s, .int .i64 m] w fun e w' => ∃ g, e = .returned (.tuple #[.slice (some ⟨g, 0, none⟩) 4 4, .int .i64 0]) ∧ w'.heap[g]? = some (.cells (Is (marksN s m)).toArray 46 (0, 0)) ∧ w.heap.size ≤ g ∧ Below w.heap.size w w' := by
  have g1 : decide ((256 : Int) < (s.size : Int)) = false := decide_eq_false (by omega)
  have HMc := marks_any s m
  obtain ⟨m0, e0⟩ : ∃ a, markAt s 0 % m = a := ⟨_, rfl⟩
  obtain ⟨m1, e1⟩ : ∃ a, markAt s 1 % m = a := ⟨_, rfl⟩
  obtain ⟨m2, e2⟩ : ∃ a, markAt s 2 % m = a := ⟨_, rfl⟩
  obtain ⟨m3, e3⟩ : ∃ a, markAt s 3 % m = a := ⟨_, rfl⟩
  have HM : Hid (marksN s m = [m0, m1, m2, m3]) := by show _ = _; unfold marksN; rw [e0, e1, e2, e3]
  rw [e0, e1, e2, e3] at HMc
  have HC : Hid (∀ w : World, Calls Try.prog 18 #[.string s, .int .i64 m] w fun e w' => e = .returned (.agg #[.int .i64 m0, .int .i64 m1, .int .i64 m2, .int .i64 m3]) ∧ Below w.heap.size w w') := fun w => HMc w hs (by omega) hm
  clear HMc e0 e1 e2 e3 hs
  go_enter Try.func9, Try.ntmps9
  go_wp2_with fail
  refine (tooLong_any s _).mono ?_
  rintro e w2 ⟨rfl, rfl⟩
  rw [g1]
  go_wp2_with fail
  refine (HC.out _).mono ?_
  rintro e w3 ⟨rfl, hb3⟩
  have HB3 : Hid (Below w2.heap.size w2 w3) := hb3
  clear hb3
  go_wp2
  go_ret2
  refine ⟨w3.heap.size, rfl, ?_, HB3.out.size, below_bt HB3.out (below_alloc _ _)⟩
  rw [HM.out]
  exact heap_alloc_new w3 _
end Go.Proofs.Ytidjgilipffdpaa
namespace Go.Proofs.Ytidjgilipffdpaa
open Go.RowKit Go.WideShapes Go.ChangeShapes

structure StrRow (w : World) (v : Value) (l : List ByteArray) : Prop where
  lies : ∃ q c, v = .slice q l.length c ∧ StrsIn w q l ∧ l.length ≤ c ∧ c ≤ maxLen ∧ (q = none → c = 0)
  each : ∀ s ∈ l, s.size ≤ maxLen
section
variable {P : Program} {w : World} {H : Type} {enc : TypeId × Value → H}
theorem open_strs {t e : TypeId} {n : Nat} {v : Value} {x : DataW H × List MemPlace} (ht : P.underlying t = some (.slice e)) (he : P.underlying e = some .string) (hc : P.cellsOf e = 1)
    (h : DataW.trod enc P w 0 (fun _ => true) true n t [v] = some x) : ∃ l, StrRow w v l := by
  rcases open_strings ht he hc h with ⟨hcs, _⟩ | ⟨a, len, cap, ss, hcs, _, hl, hm, hz, _, hcell, hsz⟩
  · simp only [List.cons.injEq, and_true] at hcs
    exact ⟨[], ⟨none, 0, hcs, fun h => absurd h (by simp), by simp, by unfold maxLen; omega, fun _ => rfl⟩, by simp⟩
  · simp only [List.cons.injEq, and_true] at hcs
    have hz' : ss.length = cap := by simpa using hz
    have hlen : (ss.take len).length = len := by simp; omega
    refine ⟨ss.take len, ⟨⟨some a, cap, by rw [hlen]; exact hcs, fun hp => ?_, by rw [hlen]; exact hl, hm, by simp⟩, fun s hs => hsz s (List.mem_of_mem_take hs)⟩⟩
    rw [hlen] at hp
    obtain ⟨b, o, s⟩ := a
    obtain rfl : s = none := by simpa [Addr.add] using World.cell?_spot (hcell 0 (by omega))
    refine ⟨b, o, rfl, fun i hi => ?_⟩
    rw [hlen] at hi
    rw [← add_plain, hcell i (by omega)]
    simp [List.getD, List.getElem?_take_of_lt hi]
end
def makeE (l : List ByteArray) (z : Int) : Nat := if 4096 < l.length then 4 else if longB l = true then 3 else if z < 8 ∨ 65536 < z ∨ z % 8 ≠ 0 then 2 else 0
theorem makeE_ok {l : List ByteArray} {z : Int} (h : makeE l z = 0) : l.length ≤ 4096 ∧ longB l = false ∧ 8 ≤ z ∧ z ≤ 65536 ∧ z % 8 = 0 := by
  unfold makeE at h
  split at h
  · cases h
  · split at h
    · cases h
    · split at h
      · cases h
      · rename_i h1 h2 h3
        exact ⟨by omega, by simpa using h2, by omega, by omega, by omega⟩
theorem makeE_is {l : List ByteArray} {z : Int} (h1 : l.length ≤ 4096) (h2 : longB l = false) (h3 : 8 ≤ z) (h4 : z ≤ 65536) (h5 : z % 8 = 0) : makeE l z = 0 := by
  unfold makeE
  rw [if_neg (by omega), if_neg (by simp [h2]), if_neg (by omega)]
theorem makeE_range (l : List ByteArray) (z : Int) : makeE l z ≤ 4 := by
  unfold makeE
  split
  · omega
  · split
    · omega
    · split <;> omega
/-- What Make answers. -/
structure Made (w w' : World) (v : Value) (l : List ByteArray) (z : Int) : Prop where
  no : makeE l z ≠ 0 → v = .slice none 0 0
  yes : makeE l z = 0 → ∃ g, v = .slice (some ⟨g, 0, none⟩) (z.toNat / 8) (z.toNat / 8) ∧ w'.heap[g]? = some (.cells (Bs (makeN l z.toNat)).toArray 5 (0, 0)) ∧ w.heap.size ≤ g
  below : Below w.heap.size w w'
theorem Make_u (q : Option Addr) (n c : Nat) (l : List ByteArray) (z : Int) (w : World) (hn : n = l.length) (hl : StrsIn w q l) (E : Nat) (hE : makeE l z = E) :
    Calls Try.prog 10 #[.slice q n c, .int .i64 z] w fun e w' => ∃ v, e = .returned (.tuple #[v, .int .i64 E]) ∧ Made w w' v l z := by
  subst hE
  by_cases h1 : 4096 < l.length
  · have e : makeE l z = 4 := by unfold makeE; rw [if_pos h1]
    rw [e]
    refine (Make_many q n c z w (by omega)).mono ?_
    rintro _ w' ⟨rfl, rfl⟩
    exact ⟨_, rfl, fun _ => rfl, fun h => (by rw [e] at h; cases h), Below.refl _ _⟩
  · cases h2 : longB l with
    | true =>
      have e : makeE l z = 3 := by unfold makeE; rw [if_neg h1, if_pos h2]
      rw [e]
      refine (Make_long q n c z l w hn hl (by omega) h2).mono ?_
      rintro _ w' ⟨rfl, rfl⟩
      exact ⟨_, rfl, fun _ => rfl, fun h => (by rw [e] at h; cases h), Below.refl _ _⟩
    | false =>
      by_cases h3 : z < 8 ∨ 65536 < z ∨ z % 8 ≠ 0
      · have e : makeE l z = 2 := by unfold makeE; rw [if_neg h1, if_neg (by simp [h2]), if_pos h3]
        rw [e]
        refine (Make_arg q n c z l w hn hl (by omega) h2 h3).mono ?_
        rintro _ w' ⟨rfl, rfl⟩
        exact ⟨_, rfl, fun _ => rfl, fun h => (by rw [e] at h; cases h), Below.refl _ _⟩
      · have e : makeE l z = 0 := makeE_is (by omega) h2 (by omega) (by omega) (by omega)
        rw [e]
        obtain ⟨m, rfl⟩ : ∃ m : Nat, z = m := ⟨z.toNat, by omega⟩
        refine (Make_ok q n c m l w hn hl (by omega) h2 (by omega) (by omega) (by omega)).mono ?_
        rintro _ w' ⟨g, rfl, hf⟩
        exact ⟨_, rfl, fun h => absurd e h, fun _ => ⟨g, by simp, by simpa using hf.blk, hf.ge⟩, hf.below⟩
theorem below_dr (w : World) (n : Nat) : Below w.heap.size w (w.drewN n) := ⟨rfl, rfl, rfl, Nat.le_refl _, fun _ _ => rfl⟩
theorem is_cell {w : World} {g : Nat} {l : List Nat} {t : TypeId} (h : w.heap[g]? = some (.cells (Is l).toArray t (0, 0))) {k : Nat} (hk : k < l.length) : w.cell? ⟨g, k, none⟩ = some (.int .i64 (l.getD k 0 : Nat)) := by
  rw [Lib.cell_of_heap h]
  simp [Is, List.getD, List.getElem?_eq_getElem hk]
def keyA : ByteArray := ⟨#[97]⟩
theorem made_a : makeN [keyA] 8 = [15] := by decide +kernel
theorem has_a : hasB [15] keyA = true := by decide +kernel
theorem strs_one (w : World) (s : ByteArray) (e : TypeId) : StrsIn (w.alloc (.cells #[.string s] e)) (some ⟨w.heap.size, 0, none⟩) [s] := by
  intro _
  refine ⟨w.heap.size, 0, rfl, fun i hi => ?_⟩
  have hh := heap_alloc_new w (.cells #[.string s] e)
  obtain rfl : i = 0 := by simpa using hi
  rw [Lib.cell_of_heap hh]
  simp
set_option maxRecDepth 8000 in
set_option maxHeartbeats 1000000 in
theorem alive_any (w : World) : Calls Try.prog 12 #[] w fun e w' => e = .returned (.bool true) ∧ Below w.heap.size w w' := by
  have HS : Hid (StrsIn (w.alloc (.cells #[.string ⟨#[97]⟩] 9)) (some ⟨w.heap.size, 0, none⟩) [keyA]) := strs_one w keyA 9
  go_enter Try.func12, Try.ntmps12
  go_wp2_with fail
  refine (Make_ok (some ⟨w.heap.size, 0, none⟩) 1 1 8 [keyA] _ rfl HS.out (by decide) (by decide +kernel) (by decide) (by decide) (by decide)).mono ?_
  rintro e w1 ⟨g, rfl, hf⟩
  rw [made_a] at hf
  have c0 : w1.cell? ⟨g, 0, none⟩ = some (.int .u8 15) := by rw [Lib.cell_of_heap hf.blk]; rfl
  have HB1 : Hid (Below w.heap.size w w1) := below_bt (below_alloc _ _) hf.below
  have HI : Hid (BIn w1 (some ⟨g, 0, none⟩) [15]) := bin_row hf.blk hf.lt
  clear hf
  go_wp2_with fail
  refine (Has_ok (some ⟨g, 0, none⟩) 1 1 [15] ⟨#[97]⟩ _ rfl HI.out (by decide) (by decide) (by decide) true has_a).mono ?_
  rintro e w2 ⟨rfl, hb2⟩
  have c1 : w2.cell? ⟨g, 0, none⟩ = some (.int .u8 15) := (hb2.cell (World.block_lt_of_cell? _ _ c0)).trans c0
  have HB2 : Hid (Below w.heap.size w w2) := below_bt HB1.out hb2
  clear hb2 c0
  go_wp2
  go_ret
  exact ⟨rfl, HB2.out⟩
end Go.Proofs.Ytidjgilipffdpaa
namespace Go.Proofs.Ytidjgilipffdpaa
open Go.RowKit Go.WideShapes

theorem rem_odd (z : Nat) : ((z : Int) % 2 == 1) = decide (z % 2 = 1) := by
  rw [Bool.eq_iff_iff]; simp; omega
set_option maxHeartbeats 400000 in
theorem refSum_any (p : Option Addr) (cap : Nat) (xs : List Nat) (w : World) (hb : BIn w p xs) (hm : xs.length ≤ maxLen) :
    Calls Try.prog 26 #[.slice p xs.length cap] w fun e w' => e = .returned (.int .u32 (sumN xs : Nat)) ∧ w' = w := by
  unfold maxLen at hm
  have hlt := hb.2
  go_enter Try.func26, Try.ntmps26
  go_wp2
  go_loop [3, 4] (fun t i => ∃ k : Nat, k ≤ xs.length ∧ i = .int .i64 k ∧ t = .int .u32 (crc 4294967295 (xs.take k) : Nat)) (fun _ i => xs.length - (intOf i).toNat)
  case atStart => exact ⟨0, by omega, rfl, rfl⟩
  case round =>
    obtain ⟨k, hk, rfl, rfl⟩ := hrel
    have hr := crc_lt (xs.take k) 4294967295 (by decide) (fun c hc => hlt c (List.mem_of_mem_take hc))
    by_cases hkl : k < xs.length
    · obtain ⟨b, o, rfl, hc⟩ := hb.1 (by omega)
      have hck := hc k hkl
      have H : Hid _ := crc_take 4294967295 xs k hkl
      have hb8 := getD_lt hlt k
      have hx := byte_xor (crc 4294967295 (xs.take k)) (xs.getD k 0) hr hb8
      have hq : crc 4294967295 (xs.take k) ^^^ xs.getD k 0 < 4294967296 := Nat.xor_lt_two_pow (n := 32) (by omega) (by omega)
      generalize crc 4294967295 (xs.take k) = q at *
      generalize xs.getD k 0 = c at *
      clear hc hlt
      generalize q ^^^ c = y at *
      go_wp2
      go_loop [3, 5] (fun t i => ∃ j : Nat, j ≤ 8 ∧ i = .int .i64 j ∧ t = .int .u32 (crcBits j y : Nat)) (fun _ i => 8 - (intOf i).toNat)
      case atStart => exact ⟨0, by omega, rfl, rfl⟩
      case round =>
        obtain ⟨j, hj, rfl, rfl⟩ := hrel
        have hr2 := crcBits_lt j y hq
        have HB : Hid (crcBits (j + 1) y = crcBit (crcBits j y)) := rfl
        by_cases hjl : j < 8
        · generalize crcBits j y = z at *
          have ho := rem_odd z
          have hx2 := bit_xor (z / 2) (by omega)
          rw [show ((z / 2 : Nat) : Int) = (z : Int) / 2 from by omega] at hx2
          by_cases hodd : z % 2 = 1
          · have ho' : ((z : Int) % 2 == 1) = true := by rw [ho]; simp [hodd]
            have HO : Hid (z % 2 = 1) := hodd
            clear ho hodd
            go_wp2
            go_round
            case rel => exact ⟨j + 1, by omega, by go_num, by rw [HB.out]; simp [crcBit, HO.out]⟩
            case measure => simp [intOf]; omega
          · have ho' : ((z : Int) % 2 == 1) = false := by rw [ho]; simp [hodd]
            have HO : Hid (¬ z % 2 = 1) := hodd
            clear ho hodd
            go_wp2
            go_round
            case rel => exact ⟨j + 1, by omega, by go_num, by rw [HB.out]; simp [crcBit, HO.out]⟩
            case measure => simp [intOf]; omega
        · have e : j = 8 := by omega
          subst e
          clear HB
          go_wp2
          go_round
          case rel => exact ⟨k + 1, by omega, by go_num, by rw [H.out]⟩
          case measure => simp [intOf]; omega
    · have e : k = xs.length := by omega
      subst e
      rw [List.take_length] at hr ⊢
      have hn := sum_not xs hr
      go_wp2
      go_ret
      exact ⟨rfl, rfl⟩
end Go.Proofs.Ytidjgilipffdpaa
namespace Go.Proofs.Ytidjgilipffdpaa
open Go.RowKit Go.WideShapes

theorem info9 : (Try.prog.info? 9).map (fun i => (i.zero, i.size, i.bytes)) = some (some (.string ByteArray.empty), 1, 16) := by kernel_rfl
def Ss (l : List ByteArray) : List Value := l.map fun s => Value.string s
theorem Ss_len (l : List ByteArray) : (Ss l).length = l.length := by simp [Ss]
theorem Ss_app (a b : List ByteArray) : Ss (a ++ b) = Ss a ++ Ss b := by simp [Ss]
theorem Ss_one (l : List ByteArray) : ∀ u ∈ Ss l, u.oneCell' = true := by
  intro u hu
  simp only [Ss, List.mem_map] at hu
  obtain ⟨b, _, rfl⟩ := hu
  rfl
theorem run_append_strs (w : World) (base : Nat) (ty : TypeId) (v : Value) (l l' : List ByteArray) (p : Option Addr) (c : Nat) (hown : w.ownsRow base 9 1 v l.length (Ss l)) (hin : StrsIn w p l') (hp : p = none → c = 0)
    (hlen : l.length + l'.length ≤ 100000) (hbase : base ≤ w.heap.size) :
    ∃ v' w', (Builtin.append_ #[32, 32] ty #[v, .slice p l'.length c]).run Try.prog w = .ok v' w' ∧ w'.ownsRow base 9 1 v' (l ++ l').length (Ss (l ++ l')) ∧ w.grownBy w' v.ownBlock := by
  obtain ⟨i0, hi, hz0, hz1, hz2⟩ := info_parts info9
  have hmax : l.length + l'.length ≤ maxLen := by unfold maxLen; omega
  cases p with
  | none =>
    obtain rfl : l' = [] := by
      cases l' with
      | nil => rfl
      | cons y ys => obtain ⟨b, o, e, _⟩ := hin (by simp); cases e
    obtain rfl := hp rfl
    exact ⟨v, w, run_append_owned_none (P := Try.prog) w base 32 ty 9 i0 1 Try.underlying32 hi v l.length (Ss l) hown, by simpa using hown, ⟨rfl, rfl, rfl, Nat.le_refl _, fun _ _ _ => rfl⟩⟩
  | some ad =>
    have hc : ∀ j u, (Ss l')[j]? = some u → w.cell? (ad.add j) = some u := by
      intro j u hu
      have hj : j < l'.length := by
        rcases Nat.lt_or_ge j l'.length with h | h
        · exact h
        · simp [Ss, List.getElem?_eq_none h] at hu
      obtain ⟨b, o, e, hcell⟩ := hin (by omega)
      simp at e
      subst e
      rw [add_plain, hcell j hj]
      simp [Ss, List.getElem?_eq_getElem hj] at hu
      simp [List.getD, List.getElem?_eq_getElem hj, ← hu]
    obtain ⟨v', w', h1, h2, h3, _⟩ := run_append_own (P := Try.prog) w base 32 ty 9 i0 (.string ByteArray.empty) 1 16 Try.underlying32 hi hz0 hz1 hz2 rfl (by decide) v l.length (Ss l) hown ad l'.length c (Ss l') (by simp [Ss]) hc (Ss_one l') hmax (by omega) hbase
    exact ⟨v', w', h1, by simpa [Ss_app] using h2, h3⟩
theorem wpList_append_strs (w : World) {ops : Array Oper} {rest : List Oper} {o : Oper} {a : Act} {Q : Exit → Act → World → Prop} (hgd : o.guard = none) (s x : Operand)
    (ho : o.op = .call { callee := .builtin .append, args := #[s, x], argTypes := #[32, 32] }) (base : Nat) (v : Value) (l l' : List ByteArray) (p : Option Addr) (m c : Nat) (hs : a.eval s = v) (hx : a.eval x = .slice p m c) (hm : m = l'.length)
    (hown : w.ownsRow base 9 1 v l.length (Ss l)) (hin : StrsIn w p l') (hp : p = none → c = 0) (hlen : l.length + l'.length ≤ 100000) (hbase : base ≤ w.heap.size)
    (h : ∀ v' w', w'.ownsRow base 9 1 v' (l ++ l').length (Ss (l ++ l')) → w.grownBy w' v.ownBlock → wpList Try.prog ops Q rest (a.put o.dst v') w') : wpList Try.prog ops Q (o :: rest) a w := by
  subst hm
  refine wpList_plain hgd fun K hK => ?_
  obtain ⟨v', w', hr, h2, h3⟩ := run_append_strs w base o.type v l l' p c hown hin hp hlen hbase
  unfold Oper.wp execOp
  simp only [ho, resolve, invoke, builtin, Sem.run_bind, Sem.run_pure, Result.andThen_ok, List.map_toArray, List.map_cons, List.map_nil, hs, hx, hr]
  exact hK _ _ (h v' w' h2 h3)
theorem own_strs {w : World} {base : Nat} {v : Value} {l : List ByteArray} (h : w.ownsRow base 9 1 v l.length (Ss l)) : ∃ q c, v = .slice q l.length c ∧ StrsIn w q l := by
  rcases h.2 with ⟨hv, hn⟩ | ⟨g, cap, cur, hv, hb, hg, hle, hmax, hsz, htk⟩
  · exact ⟨none, 0, by rw [hv, hn], fun h0 => by omega⟩
  · refine ⟨some ⟨g, 0, none⟩, cap, hv, fun _ => ⟨g, 0, rfl, fun i hi => ?_⟩⟩
    subst hv
    have := h.cells rfl i (.string (l.getD i ByteArray.empty)) (by simp [Ss, List.getD, List.getElem?_eq_getElem hi])
    rw [add_plain] at this
    exact this
theorem longB_app (a b : List ByteArray) : longB (a ++ b) = (longB a || longB b) := by unfold longB; rw [List.any_append]
/-- Two lists of at most 300 keys put together in either order. -/
theorem makeE_swap {a b : List ByteArray} (ha : a.length ≤ 300) (hb : b.length ≤ 300) (z : Int) : (makeE (a ++ b) z = 0 ↔ makeE (b ++ a) z = 0) := by
  constructor
  · intro h
    obtain ⟨_, h2, h3, h4, h5⟩ := makeE_ok h
    exact makeE_is (by simp; omega) (by rw [longB_app, Bool.or_comm, ← longB_app]; exact h2) h3 h4 h5
  · intro h
    obtain ⟨_, h2, h3, h4, h5⟩ := makeE_ok h
    exact makeE_is (by simp; omega) (by rw [longB_app, Bool.or_comm, ← longB_app]; exact h2) h3 h4 h5
theorem makeE_both {a b : List ByteArray} (ha : a.length ≤ 300) (hb : b.length ≤ 300) {z : Int} (h1 : makeE a z = 0) (h2 : makeE b z = 0) : makeE (a ++ b) z = 0 := by
  obtain ⟨_, h2', h3, h4, h5⟩ := makeE_ok h1
  obtain ⟨_, h2'', _, _, _⟩ := makeE_ok h2
  exact makeE_is (by simp; omega) (by rw [longB_app, h2', h2'']; rfl) h3 h4 h5
end Go.Proofs.Ytidjgilipffdpaa
namespace Go.Proofs.Ytidjgilipffdpaa
open Go.RowKit Go.WideShapes

theorem rsum_at (p : Option Addr) (n cap : Nat) (xs : List Nat) (w : World) (z : Int) (hn : n = xs.length) (hz : (sumN xs : Int) = z) (hb : BIn w p xs) (hm : xs.length ≤ maxLen) :
    Calls Try.prog 26 #[.slice p n cap] w fun e w' => e = .returned (.int .u32 z) ∧ w' = w := by
  subst hn hz
  exact refSum_any p cap xs w hb hm
theorem info3 : (Try.prog.info? 3).map (fun i => (i.zero, i.size, i.bytes)) = some (some (.int .i64 0), 1, 8) := by kernel_rfl
theorem Is_app (a b : List Nat) : Is (a ++ b) = Is a ++ Is b := by simp [Is]
theorem Is_len (a : List Nat) : (Is a).length = a.length := by simp [Is]
theorem take_marks (s : ByteArray) (m k : Nat) (hk : k < 4) : (marksN s m).take (k + 1) = (marksN s m).take k ++ [markAt s k % m] := by
  rw [List.take_succ_eq_append_getElem (by rw [marksN_len]; exact hk)]
  have := marksN_at s m k hk
  rw [List.getD_eq_getElem?_getD, List.getElem?_eq_getElem (by rw [marksN_len]; exact hk), Option.getD_some] at this
  rw [this]
theorem step_g (s : ByteArray) (k a0 gg p : Nat) (h0 : sieveH s = a0) (hg : sieveG s = gg) (hp : k * gg = p) : ((a0 : Int) + (p : Int)) % 4294967296 = ((markAt s k : Nat) : Int) := by
  unfold markAt
  rw [h0, hg, hp]
  omega
set_option maxRecDepth 8000 in
set_option maxHeartbeats 4000000 in
theorem rmarks_any (s : ByteArray) (m : Nat) (w : World) (hs : (s.size : Int) ≤ 256) (h0 : (0 : Int) < m) (hm : (m : Int) ≤ 65536) :
    Calls Try.prog 22 #[.string s, .int .i64 m] w fun e w' => ∃ v, e = .returned v ∧ w'.ownsRow w.heap.size 3 1 v 4 (Is (marksN s m)) ∧ Below w.heap.size w w' := by
  obtain ⟨i0, hi, hz0, hz1, hz2⟩ := info_parts info3
  obtain ⟨W, cap, hcv, hB, hR⟩ := conv_row s w
  have HB : Hid (Below w.heap.size w W) := hB
  have HR : Hid (CRow W w.heap.size s.size cap (numsOf s)) := hR
  have HS : Hid ((s.size : Int) ≤ 256) := hs
  clear hB hR hs
  obtain ⟨a0, e0⟩ : ∃ a, sieveH s = a := ⟨_, rfl⟩
  obtain ⟨gg, eg⟩ : ∃ a, sieveG s = a := ⟨_, rfl⟩
  obtain ⟨g1, eg1⟩ : ∃ a, sumN (numsOf s ++ [1]) = a := ⟨_, rfl⟩
  have l0 : (a0 : Int) < 4294967296 := by have := sieveH_lt s; omega
  have lg : (gg : Int) < 4294967296 := by have := sieveG_lt s; omega
  have l1 : (g1 : Int) < 4294967296 := by have := sumN_lt _ (one_lt s); omega
  have HG : Hid (gg = if g1 % 2 = 0 then g1 + 1 else g1) := by show _ = _; rw [← eg, ← eg1, ← or_one]; rfl
  have HZ : Hid ((sumN (numsOf s) : Int) = (a0 : Int)) := by show _ = _; rw [← e0]; rfl
  have HZ1 : Hid ((sumN (numsOf s ++ [1]) : Int) = (g1 : Int)) := by show _ = _; rw [eg1]
  have HEE : Hid (sieveH s = a0 ∧ sieveG s = gg) := ⟨e0, eg⟩
  have HW : Hid (∀ a : Nat, wrap64 ((a : Int) % (m : Int)) = ((a % m : Nat) : Int)) := by
    intro a
    have := Nat.mod_lt a (show m > 0 by omega)
    rw [← Int.natCast_emod]; unfold wrap64; omega
  clear e0 eg eg1
  go_enter Try.func22, Try.ntmps22
  go_wp2_with fail
  refine (rsum_at (some ⟨w.heap.size, 0, none⟩) s.size cap (numsOf s) _ (a0 : Int) (numsOf_len s).symm HZ.out HR.out.bin (by have := HS.out; have := numsOf_len s; unfold maxLen; omega)).mono ?_
  rintro e w1 ⟨rfl, rfl⟩
  have HA : Hid (CRow (w1.alloc (.cells #[.int .u8 1] 5)) w.heap.size s.size cap (numsOf s) ∧ w.heap.size < w1.heap.size) := ⟨HR.out.below (below_alloc _ _), by obtain ⟨cur, hg, _⟩ := HR.out.row; exact lt_heap hg⟩
  clear hcv
  go_wp2_with (at_builtin; refine wpList_append_conv _ rfl _ _ rfl w.heap.size s.size cap (numsOf s) w1.heap.size 0 1 rfl rfl HA.out.1 (cell_one_new _ _ _ 0 _ rfl) (by have := HS.out; omega) ?_)
  intro q c' w2 hb2 hg2
  have HB2 : Hid (BIn w2 q (numsOf s ++ [1])) := hb2
  have HBL : Hid (Below w.heap.size w w2) := by
    have h1 := HA.out.2
    refine ⟨hg2.os.trans HB.out.os, hg2.tape.trans HB.out.tape, hg2.output.trans HB.out.output, by have := hg2.size; simp at this; omega, fun k hk => ?_⟩
    rw [hg2.block k (by simp; omega) (by simp; omega), heap_alloc_old w1 _ (by omega)]
    exact HB.out.block k hk
  clear hb2 hg2 HA HR HB
  go_wp2_with fail
  refine (rsum_at q (s.size + 1) c' (numsOf s ++ [1]) _ (g1 : Int) (by rw [List.length_append, numsOf_len]; rfl) HZ1.out HB2.out (by have := HS.out; have := numsOf_len s; simp; unfold maxLen; omega)).mono ?_
  rintro e w3 ⟨rfl, rfl⟩
  clear HB2 HZ HZ1
  by_cases hev : g1 % 2 = 0
  · have ev : ((g1 : Int) % 2 == 0) = true := by simp; omega
    have hgg : gg = g1 + 1 := by rw [HG.out, if_pos hev]
    have hgI : ((g1 : Int) + 1) = (gg : Int) := by omega
    clear hgg hev HG
    go_wp2
    go_loopw [8, 9] (fun v i wr => ∃ k : Nat, k ≤ 4 ∧ i = .int .u64 k ∧ wr.ownsRow w.heap.size 3 1 v k (Is ((marksN s m).take k)) ∧ Below w.heap.size w wr) (fun _ i _ => 4 - (intOf i).toNat)
    case atStart => exact ⟨0, by omega, rfl, World.ownsRow_nil _ _ _ _, HBL.out⟩
    case round =>
      obtain ⟨k, hk, rfl, hown, hbr⟩ := hrel
      have HBR : Hid (Below w.heap.size w wr) := hbr
      have hsz := hbr.size
      clear hbr
      by_cases hkn : k < 4
      · obtain ⟨p, hp⟩ : ∃ p, k * gg = p := ⟨_, rfl⟩
        have hpI : (k : Int) * (gg : Int) = (p : Int) := by rw [← hp]; simp
        have hpl : (p : Int) ≤ 12884901885 := by
          have h3 : k * gg ≤ 3 * gg := Nat.mul_le_mul_right _ (by omega)
          omega
        obtain ⟨x, hx⟩ : ∃ x, markAt s k = x := ⟨_, rfl⟩
        have hst := step_g s k a0 gg p HEE.out.1 HEE.out.2 hp
        rw [hx] at hst
        have HX : Hid ((marksN s m).take (k + 1) = (marksN s m).take k ++ [x % m]) := by show _ = _; rw [take_marks s m k hkn, hx]
        have hwr := HW.out x
        have hkI : (k : Int) < 4 := by omega
        have HK : Hid (k < 4) := hkn
        clear hp hx hkn
        go_wp2_with (at_builtin; refine wpList_append_own _ rfl _ _ 22 rfl w.heap.size 3 i0 (.int .i64 0) 1 8 Try.underlying22 hi hz0 hz1 hz2 rfl (by decide) _ _ _ rfl (hown.alloc _) ⟨wr.heap.size, 0, none⟩ 1 1 [.int .i64 ((x % m : Nat) : Int)] rfl rfl (cell_one_new _ _ _) ?c2 ?c3 ?c4 ?c5 ?_)
        case c2 => intro u hu; simp at hu; subst hu; rfl
        case c3 => have := HK.out; unfold maxLen; omega
        case c4 => have := HK.out; omega
        case c5 => simp; omega
        intro v' w4 hown' hgrow _
        have R : w4.ownsRow w.heap.size 3 1 v' (k + 1) (Is ((marksN s m).take (k + 1))) := by rw [HX.out, Is_app]; exact hown'
        have hb4 : Below w.heap.size w w4 := (HBR.out.alloc hsz _).grown hgrow (by simp; omega) (fun k hk => (hown.lt k hk).1)
        clear hown' hgrow hown
        go_wp2
        go_roundw
        case rel => exact ⟨k + 1, by have := HK.out; omega, by go_num, R, hb4⟩
        case measure => have := HK.out; simp [intOf]; omega
      · obtain rfl : k = 4 := by omega
        go_wp2
        go_ret
        exact ⟨_, rfl, hown, HBR.out⟩
  · have ev : ((g1 : Int) % 2 == 0) = false := by simp; omega
    have hgg : gg = g1 := by rw [HG.out, if_neg hev]
    subst hgg
    clear hev HG
    go_wp2
    go_loopw [8, 9] (fun v i wr => ∃ k : Nat, k ≤ 4 ∧ i = .int .u64 k ∧ wr.ownsRow w.heap.size 3 1 v k (Is ((marksN s m).take k)) ∧ Below w.heap.size w wr) (fun _ i _ => 4 - (intOf i).toNat)
    case atStart => exact ⟨0, by omega, rfl, World.ownsRow_nil _ _ _ _, HBL.out⟩
    case round =>
      obtain ⟨k, hk, rfl, hown, hbr⟩ := hrel
      have HBR : Hid (Below w.heap.size w wr) := hbr
      have hsz := hbr.size
      clear hbr
      by_cases hkn : k < 4
      · obtain ⟨p, hp⟩ : ∃ p, k * gg = p := ⟨_, rfl⟩
        have hpI : (k : Int) * (gg : Int) = (p : Int) := by rw [← hp]; simp
        have hpl : (p : Int) ≤ 12884901885 := by
          have h3 : k * gg ≤ 3 * gg := Nat.mul_le_mul_right _ (by omega)
          omega
        obtain ⟨x, hx⟩ : ∃ x, markAt s k = x := ⟨_, rfl⟩
        have hst := step_g s k a0 gg p HEE.out.1 HEE.out.2 hp
        rw [hx] at hst
        have HX : Hid ((marksN s m).take (k + 1) = (marksN s m).take k ++ [x % m]) := by show _ = _; rw [take_marks s m k hkn, hx]
        have hwr := HW.out x
        have hkI : (k : Int) < 4 := by omega
        have HK : Hid (k < 4) := hkn
        clear hp hx hkn
        go_wp2_with (at_builtin; refine wpList_append_own _ rfl _ _ 22 rfl w.heap.size 3 i0 (.int .i64 0) 1 8 Try.underlying22 hi hz0 hz1 hz2 rfl (by decide) _ _ _ rfl (hown.alloc _) ⟨wr.heap.size, 0, none⟩ 1 1 [.int .i64 ((x % m : Nat) : Int)] rfl rfl (cell_one_new _ _ _) ?c2 ?c3 ?c4 ?c5 ?_)
        case c2 => intro u hu; simp at hu; subst hu; rfl
        case c3 => have := HK.out; unfold maxLen; omega
        case c4 => have := HK.out; omega
        case c5 => simp; omega
        intro v' w4 hown' hgrow _
        have R : w4.ownsRow w.heap.size 3 1 v' (k + 1) (Is ((marksN s m).take (k + 1))) := by rw [HX.out, Is_app]; exact hown'
        have hb4 : Below w.heap.size w w4 := (HBR.out.alloc hsz _).grown hgrow (by simp; omega) (fun k hk => (hown.lt k hk).1)
        clear hown' hgrow hown
        go_wp2
        go_roundw
        case rel => exact ⟨k + 1, by have := HK.out; omega, by go_num, R, hb4⟩
        case measure => have := HK.out; simp [intOf]; omega
      · obtain rfl : k = 4 := by omega
        go_wp2
        go_ret
        exact ⟨_, rfl, hown, HBR.out⟩
end Go.Proofs.Ytidjgilipffdpaa
