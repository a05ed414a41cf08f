import Derived.Test.YtghcmllmbpoidaaGreatDoorJ18
import Derived.Lib.BufferWrite
import Derived.Laws.MakeOwn
import Derived.Laws.CopyOwn
import Derived.Laws.Concat
import Derived.Shelf.SlGeneric
import Derived.Ground.SlgcProg
import Derived.Ground.SlsfProg
import Derived.Shelf.SlicesG.Cmp
import Derived.Shelf.SlSortCmp.WholeK
import Derived.Shelf.SlSortCmp.NoneTotal
import Derived.Test.YtghcmllmbpoidaaGreatDoorProg
import Derived.Lib.Bytealg
import Derived.Lib.Strings
import Derived.Lib.Walk
import Derived.Test.YtghcmllmbpoidaaGreatDoorJ07
import Derived.Test.YtghcmllmbpoidaaGreatDoorJ16
namespace Go.Proofs.YtghcmllmbpoidaaGreatDoor
open Go.RowKit Go.WideShapes Rm
theorem below_drC {w w' : World} (h : Below w.drew.heap.size w.drew w') : Below w.heap.size w w' := ((Below.refl _ _).drew).trans h
def emptyD : DirV := ⟨1, []⟩
theorem empty_may : May ltS emptyD := ⟨by decide, by decide, by simp [emptyD], by simp [emptyD, Rises], by decide +kernel, by simp [emptyD]⟩
theorem empty_dir : IsDir ltS emptyD (bytesN emptyD) := ⟨empty_may, by decide +kernel, rfl⟩
def FmtIs (n : Nat) (D : List Nat) : Prop := doN (n : Int) (List.replicate (n * 128) 0, []) (turnA [] 0 emptyD) = .ok (D, [])
theorem zeros_okay {n : Nat} (h1 : 96 ≤ n) (h2 : n ≤ 4096) : Okay (n : Int) (List.replicate (n * 128) 0) [] := by
  refine ⟨by omega, by omega, by simp, by simp, by simp⟩
theorem fmt_ex {n : Nat} (h1 : 96 ≤ n) (h2 : n ≤ 4096) : ∃ D, FmtIs n D := by
  have hl : (turnA [] 0 emptyD).length ≤ 9 := by decide +kernel
  obtain ⟨D, W, h⟩ := can_do (count := (n : Int)) (B := turnA [] 0 emptyD) (data := List.replicate (n * 128) 0) (ws := []) (by
    intro a ha
    rcases List.mem_append.1 ha with h | h
    · simp at h
    · rcases List.mem_append.1 h with h | h
      · obtain ⟨i, hi, rfl⟩ := List.mem_map.1 h
        rw [List.mem_range] at hi
        exact .inr ⟨by simp only; omega, by simp only; omega, (sec_bytes empty_dir hi).1⟩
      · rw [List.mem_singleton.1 h]
        exact .inl rfl) (by simp; omega)
  have := turn_sure h
  subst this
  exact ⟨D, h⟩
theorem fmt_okay {n : Nat} {D : List Nat} (h1 : 96 ≤ n) (h2 : n ≤ 4096) (h : FmtIs n D) : Okay (n : Int) D [] := okay_do _ (s := (List.replicate (n * 128) 0, [])) (s' := (D, [])) (zeros_okay h1 h2) h
theorem fmt_slots {n : Nat} {D : List Nat} (h1 : 96 ≤ n) (h2 : n ≤ 4096) (h : FmtIs n D) : slotK D [] 0 8 = bytesN emptyD ∧ ∀ i, i < 8 → nowN D [] ((8 + i : Nat) : Int) = nowN (List.replicate (n * 128) 0) [] ((8 + i : Nat) : Int) := by
  have ho := zeros_okay h1 h2
  constructor
  · rw [← eight_secs (bytes_len empty_dir)]
    refine flat_congr fun i hi => now_put (by omega) ho h (fun X hX => ?_) ?_
    · rcases turnA_mem hX with h | ⟨j, hj, e1, e2⟩
      · cases h
      · obtain rfl : i = j := by omega
        exact e2
    · unfold turnA
      exact List.mem_append.2 (.inr (List.mem_append.2 (.inl (List.mem_map.2 ⟨i, List.mem_range.2 hi, rfl⟩))))
  · intro i hi
    refine now_keep (by omega) ho h fun X hX => ?_
    rcases turnA_mem hX with h | ⟨j, hj, e1, _⟩
    · cases h
    · omega
theorem zero_now {n : Nat} (s : Nat) (h2 : s < n) : nowN (List.replicate (n * 128) 0) [] (s : Int) = List.replicate 128 0 := by
  show secN _ _ = _
  unfold secN
  rw [List.drop_replicate, List.take_replicate, show ((s : Int)).toNat = s from rfl]
  congr 1
  omega
theorem zeros_slot : (List.range 8).flatMap (fun _ => List.replicate 128 0) = List.replicate 1024 0 := by decide +kernel
theorem fmt_other {n : Nat} {D : List Nat} (h1 : 96 ≤ n) (h2 : n ≤ 4096) (h : FmtIs n D) : slotK D [] 8 8 = List.replicate 1024 0 := by
  rw [← zeros_slot]
  refine flat_congr fun i hi => ?_
  rw [(fmt_slots h1 h2 h).2 i hi, zero_now (8 + i) (by omega)]
theorem zeros_none : ∀ x, ¬ IsDir ltS x (List.replicate 1024 0) := by
  intro x hx
  have hb : IsDir ltS x (bytesN x) := ⟨hx.1, hx.2.1, rfl⟩
  have h := (sec_bytes hb (i := 0) (by decide)).2
  rw [← hx.2.2, show beg8 (secAt (List.replicate 1024 0) 0) = 0 by decide +kernel] at h
  have := hx.1.lo
  omega
theorem fmt_mount {n : Nat} {D : List Nat} (h1 : 96 ≤ n) (h2 : n ≤ 4096) (h : FmtIs n D) : MountIs (n : Int) D [] (some (emptyD, 0)) 0 := by
  obtain ⟨a, b⟩ := fmt_slots h1 h2 h
  refine .inr (.inr ⟨fmt_okay h1 h2 h, by omega, some emptyD, none, ?_, ?_, rfl, rfl⟩)
  · rw [a]
    exact ⟨empty_dir, (errK_fits empty_may.pcs ⟨by omega, by omega⟩).2 (fun p hp => by cases hp)⟩
  · rw [fmt_other h1 h2 h]
    intro x hx
    exact absurd hx (zeros_none x)
end Go.Proofs.YtghcmllmbpoidaaGreatDoor
