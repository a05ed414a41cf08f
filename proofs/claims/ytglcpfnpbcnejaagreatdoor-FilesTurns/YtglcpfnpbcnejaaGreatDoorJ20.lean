/-
  A sector as it is now.
-/
import Derived.Test.YtglcpfnpbcnejaaGreatDoorJ03
import Derived.Test.YtglcpfnpbcnejaaGreatDoorJ04
import Derived.Test.YtglcpfnpbcnejaaGreatDoorJ16
import Derived.Test.YtglcpfnpbcnejaaGreatDoorJ08
import Derived.Test.YtglcpfnpbcnejaaGreatDoorJ19
namespace Go.Proofs.YtglcpfnpbcnejaaGreatDoor.Rm

theorem len_secs : ∀ {s : Pcs}, (∀ p ∈ s, 1 ≤ p.2) → s.length ≤ (secs s).length
  | [], _ => Nat.zero_le _
  | p :: s, h => by
    have ih := len_secs (s := s) (fun q hq => h q (by simp [hq]))
    have hp := h p (by simp)
    rw [secs_cons, secs_one]
    simp only [List.length_cons, List.length_append, List.length_map, List.length_range]
    omega
theorem sorted_perm (l : Pcs) : ∃ s, l.Perm s ∧ Up s := by
  refine ⟨l.mergeSort (fun p q => decide (p.1 ≤ q.1)), (List.mergeSort_perm l _).symm, ?_⟩
  have := List.pairwise_mergeSort (le := fun p q : Int × Int => decide (p.1 ≤ q.1)) (fun a b c h1 h2 => by simp at *; omega) (fun a b => by simp; omega) l
  exact List.Pairwise.imp (fun h => by simpa using h) this
theorem good_len {count : Nat} {l : Pcs} (h : Good count l) : l.length ≤ count := by
  obtain ⟨s, hp, hu⟩ := sorted_perm l
  have hs := h.perm hp
  have hc := hs.chain hu
  have h1 := len_secs (s := s) (fun p hp => (hs.wn p hp).2.1)
  rw [secs_meant hc hs.wn] at h1
  have h2 := meant_all_len (cov s) 0 count
  rw [hp.length_eq]
  omega
theorem good_more {count : Int} {l : Pcs} (h : Good count l) (hc : count ≤ 4096) : Good 4096 l :=
  ⟨fun p hp => by have := h.wn p hp; unfold Wn at *; omega, h.apart⟩
/-- What is free lies apart from the pieces. -/
theorem good_app {count : Int} {l t : Pcs} (hl : Good count l) (ht : Good count t) (hf : ∀ n, n ∈ secs t → cov l n = false) : Good count (l ++ t) := by
  refine ⟨fun p hp => ?_, List.pairwise_append.2 ⟨hl.apart, ht.apart, fun p hp q hq => ?_⟩⟩
  · rcases List.mem_append.1 hp with h | h
    · exact hl.wn p h
    · exact ht.wn p h
  · have h1 := hl.wn p hp
    have h2 := ht.wn q hq
    unfold Wn at h1 h2
    unfold Apart
    by_cases a1 : p.1 + p.2 ≤ q.1
    · exact .inl a1
    by_cases a2 : q.1 + q.2 ≤ p.1
    · exact .inr a2
    exfalso
    by_cases a3 : p.1 ≤ q.1
    · have := hf q.1 (mem_secs.2 (cov_iff.2 ⟨q, hq, by omega, by omega⟩))
      exact cov_false.1 this p hp ⟨a3, by omega⟩
    · have := hf p.1 (mem_secs.2 (cov_iff.2 ⟨q, hq, by omega, by omega⟩))
      exact cov_false.1 this p hp ⟨by omega, by omega⟩
theorem got_good {first count : Int} {l : Pcs} {many : Nat} (h : (0 ≤ count ∧ count ≤ 4096) ∧ 0 ≤ first ∧ first ≤ count) : Good count (gotF first count l many).1 := by
  refine (gotF_of first count l many).runs.chain.good fun q hq => ?_
  have := gotF_bounds h q hq
  unfold Wn
  omega
theorem got_free {first count : Int} {l : Pcs} {many : Nat} : ∀ n, n ∈ secs (gotF first count l many).1 → cov l n = false := by
  intro n hn
  rw [(gotF_of first count l many).secs] at hn
  have := (mem_meant.1 (List.mem_of_mem_take hn)).1
  unfold freeB at this
  simpa using this
theorem got_sum (first count : Int) (l : Pcs) (many : Nat) : sumP (gotF first count l many).1 = ((gotF first count l many).2 : Nat) := by
  have h := gotF_of first count l many
  rw [← secs_len_sum (fun p hp => by have := h.runs.2 p hp; omega), h.secs, h.got]
end Go.Proofs.YtglcpfnpbcnejaaGreatDoor.Rm
namespace Go.Proofs.YtglcpfnpbcnejaaGreatDoor
open Go.RowKit Go.WideShapes Rm

/-! ### pieces within a disk -/
theorem errK_fits {count : Int} {l : Pcs} (h : errK 4096 l = 0) (hc : 0 ≤ count ∧ count ≤ 4096) : errK count l = 0 ↔ ∀ p ∈ l, p.1 + p.2 ≤ count := by
  obtain ⟨_, h2, h3⟩ := errK_zero h
  constructor
  · intro h4 p hp
    have := (errK_zero h4).2.2.wn p hp
    unfold Wn at this
    omega
  · intro h4
    refine errK_ok hc h2 ⟨fun p hp => ?_, h3.apart⟩
    have := h3.wn p hp
    have := h4 p hp
    unfold Wn at *
    omega

/-! ### how many sectors are free -/
theorem secs_len_good {count : Int} {l : Pcs} (h : Rm.Good count l) {f k : Nat} (hf : ∀ p ∈ l, (f : Int) ≤ p.1) (hk : ((f + k : Nat) : Int) = count) : (secs l).length = (meant (cov l) f k).length := by
  obtain ⟨s, hp, hu⟩ := sorted_perm l
  have hg := h.perm hp
  have h1 : (secs l).length = (secs s).length := (List.Perm.flatMap_right _ hp).length_eq
  have h2 : secs s = meant (cov l) f k := by
    refine up_ext (secs_up (hg.chain hu) (fun p hp => ?_)) (meant_up _ _ _) (fun n => ?_)
    · have := hg.wn p hp
      unfold Wn at this
      omega
    · rw [mem_secs, mem_meant, cov_perm hp]
      constructor
      · intro hc
        refine ⟨hc, ?_⟩
        obtain ⟨p, hps, h3, h4⟩ := cov_iff.1 hc
        have a := hf p (hp.mem_iff.2 hps)
        have b := hg.wn p hps
        unfold Wn at b
        omega
      · exact fun h => h.1
  rw [h1, h2]
/-! ### which slot counts -/
/-- What a slot holds. -/
def SlotR (lt : ByteArray → ByteArray → Prop) (count : Int) (xs : List Nat) : Option DirV → Prop
  | some x => IsDir lt x xs ∧ errK count (allPcs x.files) = 0
  | none => ∀ x, IsDir lt x xs → errK count (allPcs x.files) ≠ 0
/-- The directory that counts, and its slot. -/
def mountR : Option DirV → Option DirV → Option (DirV × Int)
  | some x, some y => if x.gen < y.gen then some (y, 8) else some (x, 0)
  | some x, none => some (x, 0)
  | none, some y => some (y, 8)
  | none, none => none
end Go.Proofs.YtglcpfnpbcnejaaGreatDoor
namespace Go.Proofs.YtglcpfnpbcnejaaGreatDoor.Dk
end Go.Proofs.YtglcpfnpbcnejaaGreatDoor.Dk
namespace Go.Proofs.YtglcpfnpbcnejaaGreatDoor
open Go.RowKit Go.WideShapes Rm Dk

/-- The first k sectors from 'at' on, as they are now. -/
def slotK (data : List Nat) (ws : Puts) (a k : Nat) : List Nat := (List.range k).flatMap fun i => nowN data ws ((a + i : Nat) : Int)
theorem slotK_snoc (data : List Nat) (ws : Puts) (a k : Nat) : slotK data ws a (k + 1) = slotK data ws a k ++ nowN data ws ((a + k : Nat) : Int) := by
  unfold slotK; rw [List.range_succ, List.flatMap_append]; simp
/-- The place of a name among files. -/
def findN (l : List FileV) (name : ByteArray) : Option Nat := l.findIdx? fun f => f.name == name
/-! ### a slot that is written anew -/
end Go.Proofs.YtglcpfnpbcnejaaGreatDoor
namespace Go.Proofs.YtglcpfnpbcnejaaGreatDoor
open Go.RowKit Go.WideShapes Rm

set_option maxHeartbeats 1000000 in
theorem fnow_any (v : Value) (n : Nat) (count : Int) (data : List Nat) (ws : Puts) (w : World) (hd : DiskIn w v count data ws) (ho : Okay count data ws) (hn : (n : Int) < count) :
    Calls Tryz.prog 102 #[v, .int .i64 (n : Int)] w fun e w' => (∃ g, e = .returned (.slice (some ⟨g, 0, none⟩) 128 128) ∧ BIn w' (some ⟨g, 0, none⟩) (nowN data ws n) ∧ (nowN data ws n).length = 128 ∧ ∀ c ∈ nowN data ws n, c < 256) ∧ Below w.heap.size w w' := by
  obtain ⟨p, c, q, m, rfl, _⟩ := hd.parts
  have HR := fun wx (hb : Below w.heap.size w wx) => read_okD _ n count data ws wx (hd.below hb) ho hn
  clear hd ho hn
  go_enter Tryz.func102, Tryz.ntmps102
  go_wp2_with fail
  refine (HR _ (below_alloc w _)).mono ?_
  rintro e w2 ⟨⟨v2, rfl, g, rfl, hg1, hg2, hg3, hg4⟩, hb2⟩
  have HI : Hid (BIn w2 (some ⟨g, 0, none⟩) (nowN data ws n)) := bin_row hg2 hg4
  have HN : Hid ((nowN data ws n).length = 128 ∧ ∀ c ∈ nowN data ws n, c < 256) := ⟨hg3, hg4⟩
  have HB : Hid (Below w.heap.size w w2) := below_bt (below_alloc w _) hb2
  clear hg1 hg2 hg3 hg4 hb2 HR
  go_wp2
  go_ret
  exact ⟨⟨g, rfl, HI.out, HN.out⟩, HB.out⟩
end Go.Proofs.YtglcpfnpbcnejaaGreatDoor
