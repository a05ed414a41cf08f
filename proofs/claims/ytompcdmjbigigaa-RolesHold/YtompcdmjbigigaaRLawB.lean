/-
  The laws' helpers: great, two, alive.
-/
import Derived.Test.YtompcdmjbigigaaRLawA
namespace Go.Proofs.Ytompcdmjbigigaa
open Go.RowKit Go.WideShapes Go.Joins Go.Maps

/-- What great tells. -/
inductive GrP (L : List Rl) (ns : List ByteArray) : Value → Prop where
  | yes : GrP L ns (.bool true)
  | no : L.length ≤ 40 → ns.length ≤ 1100 → GrP L ns (.bool false)
set_option maxHeartbeats 4000000 in
set_option maxRecDepth 8000 in
theorem great_any (q : Option Addr) (c : Nat) (L : List Rl) (q2 : Option Addr) (c2 : Nat) (ns : List ByteArray) (w : World) (h : RolesIn w q L c) (hn : StrsIn w q2 ns c2) :
    Calls Try.prog 14 #[.slice q L.length c, .slice q2 ns.length c2] w fun e w' => ∃ g, e = .returned g ∧ GrP L ns g ∧ Below w.heap.size w w' := by
  have HH : Hid (RolesIn w q L c ∧ StrsIn w q2 ns c2) := ⟨h, hn⟩
  have hnI : (L.length : Int) ≤ 9223372036854775807 := by have := h.le; have := h.cap; unfold maxLen at this; omega
  have hmI : (ns.length : Int) ≤ 9223372036854775807 := by have := hn.le; have := hn.cap; unfold maxLen at this; omega
  obtain ⟨n, hN⟩ : ∃ n, L.length = n := ⟨_, rfl⟩
  obtain ⟨m, hM⟩ : ∃ m, ns.length = m := ⟨_, rfl⟩
  rw [hN] at hnI ⊢
  rw [hM] at hmI ⊢
  have HN : Hid (L.length = n ∧ ns.length = m) := ⟨hN, hM⟩
  clear h hn hN hM
  go_enter Try.func14, Try.ntmps14
  by_cases h1 : 40 < n
  · have i1 : (40 : Int) < (n : Int) := by omega
    clear h1
    go_wp2_with fail
    go_ret
    exact ⟨_, rfl, .yes, Below.refl _ _⟩
  have i1 : ¬ (40 : Int) < (n : Int) := by omega
  by_cases h2 : 1100 < m
  · have i2 : (1100 : Int) < (m : Int) := by omega
    clear h1 h2
    go_wp2_with fail
    go_ret
    exact ⟨_, rfl, .yes, Below.refl _ _⟩
  have i2 : ¬ (1100 : Int) < (m : Int) := by omega
  have HF : Hid (n ≤ 40 ∧ m ≤ 1100) := ⟨by omega, by omega⟩
  clear h1 h2
  go_wp2_with fail
  go_loopw [5, 6] (fun z t wr => ∃ (k : Nat) (s : Int), k ≤ n ∧ t = .int .i64 (k : Int) ∧ z = .int .i64 s ∧ Below w.heap.size w wr) (fun _ t _ => n - (intOf t).toNat)
  case atStart => exact ⟨0, 0, Nat.zero_le _, rfl, rfl, Below.refl _ _⟩
  case round =>
    obtain ⟨k, s, hk, rfl, rfl, hb⟩ := hrel
    have HB : Hid (Below w.heap.size w wr) := hb
    by_cases hlt : k < n
    · have hkI : (k : Int) < (n : Int) := by omega
      have hk0 : (0 : Int) ≤ (k : Int) := by omega
      have HK : Hid (k < n ∧ k < L.length) := ⟨hlt, by have := HN.out; omega⟩
      have hen := HH.out.1.below hb
      obtain ⟨fb, fo, rfl⟩ := hen.addr (by have := HK.out; omega)
      obtain ⟨hq, hc, mq, mc, hr⟩ := hen.at (i := k) HK.out.2
      obtain ⟨z0, z1, z2, _, _, _⟩ := hr
      generalize (L.getD k zR).holds.length = hl at z1
      generalize (L.getD k zR).may.length = ml at z2
      generalize (L.getD k zR).name = x at z0
      clear hk hlt hen hb
      go_wp2_with fail
      go_quiet (fail)
      go_wp2_with fail
      go_roundw
      case rel => exact ⟨k + 1, _, HK.out.1, by go_num, rfl, below_dN HB.out _⟩
      case measure => have := HK.out; simp [intOf]; omega
    · obtain rfl : k = n := by omega
      clear hk hlt hb
      go_wp2_with fail
      generalize wr = w0 at HB ⊢
      go_loopw [5, 7] (fun z t wr => ∃ (j : Nat) (s : Int), j ≤ m ∧ t = .int .i64 (j : Int) ∧ z = .int .i64 s ∧ wr = w0) (fun _ t _ => m - (intOf t).toNat)
      case atStart => exact ⟨0, _, Nat.zero_le _, rfl, rfl, rfl⟩
      case round =>
        obtain ⟨j, s, hj, rfl, rfl, rfl⟩ := hrel
        by_cases hlt : j < m
        · have hjI : (j : Int) < (m : Int) := by omega
          have hj0 : (0 : Int) ≤ (j : Int) := by omega
          have HK : Hid (j < m ∧ j < ns.length) := ⟨hlt, by have := HN.out; omega⟩
          have hen := HH.out.2.below HB.out
          obtain ⟨fb, fo, rfl⟩ := hen.addr (by have := HK.out; omega)
          have z0 := hen.at (i := j) HK.out.2
          generalize ns.getD j ByteArray.empty = x at z0
          clear hj hlt hen
          go_wp2_with fail
          go_roundw
          case rel => exact ⟨j + 1, _, HK.out.1, by go_num, rfl, trivial⟩
          case measure => have := HK.out; simp [intOf]; omega
        · obtain rfl : j = m := by omega
          clear hj hlt
          by_cases hs : (20000 : Int) < s
          · go_wp2_with fail
            go_ret
            exact ⟨_, rfl, .yes, HB.out⟩
          · go_wp2_with fail
            go_ret
            exact ⟨_, rfl, .no (by have := HF.out; have := HN.out; omega) (by have := HF.out; have := HN.out; omega), HB.out⟩
/-! the chapter's roles -/
def sBoss : ByteArray := ⟨#[98, 111, 115, 115]⟩
def sClerk : ByteArray := ⟨#[99, 108, 101, 114, 107]⟩
def sSign : ByteArray := ⟨#[115, 105, 103, 110]⟩
def sCheck : ByteArray := ⟨#[99, 104, 101, 99, 107]⟩
def sNobody : ByteArray := ⟨#[110, 111, 98, 111, 100, 121]⟩
def lTwo : List Rl := [⟨sBoss, [sClerk], [sSign]⟩, ⟨sClerk, [], [sCheck]⟩]
theorem one_in {w : World} {b : Nat} {s : ByteArray} (h : w.cell? ⟨b, 0, none⟩ = some (.string s)) (hs : s.size ≤ maxLen) : StrsIn w (some ⟨b, 0, none⟩) [s] 1 :=
  ⟨fun _ => ⟨b, 0, rfl, fun i hi => by obtain rfl : i = 0 := by simpa using hi
                                       exact h⟩, fun x hx => by rw [List.mem_singleton.1 hx]; exact hs, Nat.le_refl _, by unfold maxLen; simp, fun e => by cases e⟩
theorem two_in (w : World) : RolesIn ((((w.alloc (.cells #[.string sClerk] 9)).alloc (.cells #[.string sSign] 9)).alloc (.cells #[.string sCheck] 9)).alloc (.cells #[.string sBoss, .slice (some ⟨w.heap.size, 0, none⟩) 1 1, .slice (some ⟨w.heap.size + 1, 0, none⟩) 1 1, .string sClerk, .slice none 0 0, .slice (some ⟨w.heap.size + 1 + 1, 0, none⟩) 1 1] 37)) (some ⟨w.heap.size + 1 + 1 + 1, 0, none⟩) lTwo 2 ∧
    Below w.heap.size w ((((w.alloc (.cells #[.string sClerk] 9)).alloc (.cells #[.string sSign] 9)).alloc (.cells #[.string sCheck] 9)).alloc (.cells #[.string sBoss, .slice (some ⟨w.heap.size, 0, none⟩) 1 1, .slice (some ⟨w.heap.size + 1, 0, none⟩) 1 1, .string sClerk, .slice none 0 0, .slice (some ⟨w.heap.size + 1 + 1, 0, none⟩) 1 1] 37)) := by
  have b1 := Boxed.new w 9 (.string sClerk)
  have e1 := below_new w (.cells #[.string sClerk] 9)
  have z1 : (w.alloc (.cells #[.string sClerk] 9)).heap.size = w.heap.size + 1 := World.size_alloc _ _
  generalize w.alloc (.cells #[.string sClerk] 9) = w1 at b1 e1 z1 ⊢
  have b2 := Boxed.new w1 9 (.string sSign)
  have b1' := b1.alloc (.cells #[.string sSign] 9)
  have e2 := below_more e1 (below_new w1 (.cells #[.string sSign] 9))
  have z2 : (w1.alloc (.cells #[.string sSign] 9)).heap.size = w.heap.size + 1 + 1 := by rw [World.size_alloc, z1]
  rw [z1] at b2
  generalize w1.alloc (.cells #[.string sSign] 9) = w2 at b1' b2 e2 z2 ⊢
  have b3 := Boxed.new w2 9 (.string sCheck)
  have b1'' := b1'.alloc (.cells #[.string sCheck] 9)
  have b2' := b2.alloc (.cells #[.string sCheck] 9)
  have e3 := below_more e2 (below_new w2 (.cells #[.string sCheck] 9))
  have z3 : (w2.alloc (.cells #[.string sCheck] 9)).heap.size = w.heap.size + 1 + 1 + 1 := by rw [World.size_alloc, z2]
  rw [z2] at b3
  generalize w2.alloc (.cells #[.string sCheck] 9) = w3 at b1'' b2' b3 e3 z3 ⊢
  generalize hO : (Obj.cells #[.string sBoss, .slice (some ⟨w.heap.size, 0, none⟩) 1 1, .slice (some ⟨w.heap.size + 1, 0, none⟩) 1 1, .string sClerk, .slice none 0 0, .slice (some ⟨w.heap.size + 1 + 1, 0, none⟩) 1 1] 37) = o
  have n4 := _root_.Go.heap_alloc_new w3 o
  rw [z3] at n4
  have c1 := (b1''.alloc o).cell
  have c2 := (b2'.alloc o).cell
  have c3 := (b3.alloc o).cell
  have e4 := below_more e3 (below_new w3 o)
  generalize w3.alloc o = w4 at n4 c1 c2 c3 e4 ⊢
  subst hO
  refine ⟨⟨fun _ => ⟨_, _, rfl, fun i hi => ?_⟩, Nat.le_refl _, by unfold maxLen; simp, fun e => by cases e⟩, e4⟩
  have i1 := one_in c1 (by decide)
  have i2 := one_in c2 (by decide)
  have i3 := one_in c3 (by decide)
  have hs : sClerk.size ≤ maxLen := by decide
  have hb : sBoss.size ≤ maxLen := by decide
  obtain rfl | rfl : i = 0 ∨ i = 1 := by simp [lTwo] at hi; omega
  · exact ⟨_, _, _, _, Lib.cell_of_heap n4 0, Lib.cell_of_heap n4 1, Lib.cell_of_heap n4 2, i1, i2, hb⟩
  · exact ⟨_, _, _, _, Lib.cell_of_heap n4 3, Lib.cell_of_heap n4 4, Lib.cell_of_heap n4 5, StrsIn.nil _, i3, hs⟩
set_option maxHeartbeats 4000000 in
set_option maxRecDepth 8000 in
theorem two_any (w : World) :
    Calls Try.prog 10 #[] w fun e w' => ∃ q c, e = .returned (.slice q 2 c) ∧ RolesIn w' q lTwo c ∧ Below w.heap.size w w' := by
  go_enter Try.func10, Try.ntmps10
  go_wp2_with fail
  go_ret
  exact ⟨_, _, rfl, two_in w⟩
theorem two_chk : chkE lTwo = 0 := by decide
theorem two_names (ns : List ByteArray) (h : ns.length ≤ 1024) : clE lTwo ns = 0 := clE_ok two_chk (by omega)
theorem two_nm : nmL lTwo = [sBoss, sClerk] := rfl
/-- What the boss comes to. -/
theorem two_boss (ns : List ByteArray) (h : sBoss ∈ ns) : IsCl lTwo ns [sBoss, sClerk] := by
  have hb : Comes lTwo ns sBoss := .here h (by rw [two_nm]; simp)
  have hc : Comes lTwo ns sClerk := .step (r := ⟨sBoss, [sClerk], [sSign]⟩) (by simp [lTwo]) hb (by simp) (by rw [two_nm]; simp)
  refine ⟨?_, fun a => ⟨fun ha => ?_, fun ha => by have := ha.mem; rwa [two_nm] at this⟩⟩
  · unfold Rise
    refine List.Pairwise.cons (fun b hb => ?_) (List.pairwise_singleton _ _)
    rw [List.mem_singleton.1 hb]
    decide
  · simp only [List.mem_cons, List.not_mem_nil, or_false] at ha
    rcases ha with rfl | rfl
    · exact hb
    · exact hc
theorem two_clerk : IsCl lTwo [sClerk] [sClerk] := by
  have hc : Comes lTwo [sClerk] sClerk := .here (by simp) (by rw [two_nm]; simp)
  refine ⟨List.pairwise_singleton _ _, fun a => ⟨fun ha => by rw [List.mem_singleton.1 ha]; exact hc, fun ha => ?_⟩⟩
  refine ha.sub (S := fun a => a ∈ [sClerk]) (fun a h _ => h) (fun r hr h b hb _ => ?_)
  simp only [lTwo, List.mem_cons, List.not_mem_nil, or_false] at hr
  rcases hr with rfl | rfl
  · simp [sBoss, sClerk] at h
  · simp at hb
end Go.Proofs.Ytompcdmjbigigaa
