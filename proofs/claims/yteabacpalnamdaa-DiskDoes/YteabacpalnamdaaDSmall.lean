/-
  Contracts of the small calls of package disk: mayCount, has, sector, copyOf.
-/
import Derived.Test.YteabacpalnamdaaDMath
import Derived.Test.YteabacpalnamdaaProg
namespace Go.Proofs.Yteabacpalnamdaa
open Go.RowKit Go.WideShapes

theorem info_u8 : (Try.prog.info? 5).map (fun i => (i.zero, i.size, i.bytes)) = some (some (.int .u8 0), 1, 1) := by kernel_rfl
theorem size_u8 : (Try.prog.info? 5).map (·.size) = some 1 := by kernel_rfl

/-- A row that the call made, whole. -/
theorem row_full {w : World} {base e g n : Nat} {xs : List Value} (h : w.ownsRow base e 1 (.slice (some ⟨g, 0, none⟩) n n) n xs) : w.heap[g]? = some (.cells xs.toArray e (0, 0)) := by
  rcases h.2 with ⟨h, _⟩ | ⟨g', cap, cur, hv, _, hg, _, _, hs, ht⟩
  · cases h
  · simp only [Value.slice.injEq, Option.some.injEq, Addr.mk.injEq, and_true, true_and] at hv
    obtain ⟨rfl, rfl⟩ := hv
    rw [hg]
    rw [List.take_of_length_le (by simp; omega)] at ht
    rw [← ht, Array.toArray_toList]
theorem zeros_made (n : Nat) : (madeCells #[Value.int .u8 0] n).toList = Bs (List.replicate n 0) := by
  rw [toList_madeCells_one]
  simp [Bs]
theorem splice_all {α : Type} {L cs : List α} (h : cs.length = L.length) : splice L 0 cs = cs := by
  simp [splice, h]
theorem Bs_splice (xs ys : List Nat) (o : Nat) : splice (Bs xs) o (Bs ys) = Bs (splice xs o ys) := by simp [splice, Bs]
/-- A row of bytes of one's own reads so. -/
theorem bin_row {w : World} {g t : Nat} {xs : List Nat} (h : w.heap[g]? = some (.cells (Bs xs).toArray t (0, 0))) (hx : ∀ c ∈ xs, c < 256) : BIn w (some ⟨g, 0, none⟩) xs := by
  refine ⟨fun _ => ⟨g, 0, rfl, fun i hi => ?_⟩, hx⟩
  rw [Nat.zero_add, cell_of_row w g i _ _ _ h]
  simp [Bs, List.getD, List.getElem?_eq_getElem hi]

theorem mayCount_any (n : Int) (w : World) : Calls Try.prog 32 #[.int .i64 n] w fun e w' => e = .returned (.bool (decide (1 ≤ n ∧ n ≤ 4096))) ∧ w' = w := by
  by_cases h1 : 1 ≤ n
  · go_enter Try.func32, Try.ntmps32
    go_wp2
    go_ret
    exact ⟨by simp [h1], rfl⟩
  · go_enter Try.func32, Try.ntmps32
    go_wp2
    go_ret
    exact ⟨by simp; omega, rfl⟩

theorem has_any (count n : Int) (a b : Value) (w : World) : Calls Try.prog 37 #[.agg #[.int .i64 count, a, b], .int .i64 n] w fun e w' => e = .returned (.bool (decide (0 ≤ n ∧ n < count))) ∧ ∃ o, w' = w.alloc o := by
  by_cases h1 : 0 ≤ n
  · go_enter Try.func37, Try.ntmps37
    go_wp2
    go_ret
    exact ⟨by simp [h1], _, rfl⟩
  · go_enter Try.func37, Try.ntmps37
    go_wp2
    go_ret
    exact ⟨by simp; omega, _, rfl⟩

/-- The place of sector n. -/
theorem sector_any (b o len cap n : Nat) (w : World) (hn : n < 4096) (hl : (n + 1) * 128 ≤ len) (hc : len ≤ cap) :
    Calls Try.prog 34 #[.slice (some ⟨b, o, none⟩) len cap, .int .i64 n] w fun e w' => e = .returned (.slice (some ⟨b, o + n * 128, none⟩) 128 (cap - n * 128)) ∧ w' = w := by
  go_enter Try.func34, Try.ntmps34
  go_wp2
  go_ret
  exact ⟨by show Ending.returned (.slice _ ((n + 1) * 128 - n * 128) _) = _; rw [show (n + 1) * 128 - n * 128 = 128 from by omega], rfl⟩

/-- Bytes in new memory: 128 of them. -/
theorem copyOf_any (p : Option Addr) (cap : Nat) (xs : List Nat) (w : World) (hb : BIn w p xs) (hx : xs.length = 128) :
    Calls Try.prog 36 #[.slice p 128 cap] w fun e w' => ∃ g, e = .returned (.slice (some ⟨g, 0, none⟩) 128 128) ∧ w.heap.size ≤ g ∧ w'.heap[g]? = some (.cells (Bs xs).toArray 5 (0, 0)) ∧ Below w.heap.size w w' := by
  obtain ⟨i0, hi, hz0, hz1, hz2⟩ := info_parts info_u8
  go_enter Try.func36, Try.ntmps36
  go_wp2_with (at_make; refine wpList_make_full _ rfl _ _ 22 rfl w.heap.size 5 i0 (.int .u8 0) 1 Try.underlying22 hi hz0 hz1 .i64 .i64 _ _ 128 rfl rfl rfl rfl (by rw [hz2]; decide) (by decide) (Nat.le_refl _) ?_)
  intro w1 hown hgrow
  have hrow := row_full hown
  rw [zeros_made] at hrow
  have hb1 : Below w.heap.size w w1 := (Below.refl _ _).grown hgrow (Nat.le_refl _) (fun k hk => by cases hk)
  obtain ⟨b, o, rfl, hc⟩ := hb.1 (by omega)
  have hsrc : Hid (∀ j v, (Bs xs)[j]? = some v → w1.cell? ((⟨b, o, none⟩ : Addr).add j) = some v) := bin_news (hb.below hb1)
  have HR : Hid (w1.heap[w.heap.size]? = some (.cells (Bs (List.replicate 128 0)).toArray 5 (0, 0))) := hrow
  have HL : Hid ((Bs xs).length = Nat.min 128 128) := by show _ = _; rw [Bs_len, hx]; rfl
  have HF : Hid (0 + (Bs xs).length ≤ (Bs (List.replicate 128 0)).length) := by show _ ≤ _; rw [Bs_len, Bs_len, hx]; simp
  clear hown hgrow hrow hb hc
  go_wp2_with (refine wpList_copy_splice (o := ⟨some 9, _, _, _, _, _⟩) rfl (.tmp 7) (.tmp 8) 22 22 rfl 5 Try.underlying22 size_u8 (some ⟨w.heap.size, 0, none⟩) (some ⟨b, o, none⟩) 128 128 128 cap rfl rfl w.heap.size 0 (Bs (List.replicate 128 0)) 5 HR.out (Bs xs) HL.out (fun _ => ⟨rfl, _, rfl, hsrc.out⟩) HF.out (Bs_oneCell xs) w.heap.size w hb1 (Nat.le_refl _) ?_)
  intro w2 hrow2 hb2
  go_wp2
  go_ret
  refine ⟨_, rfl, Nat.le_refl _, ?_, hb2⟩
  rw [hrow2.out, splice_all (by rw [HL.out, Bs_len]; simp)]
end Go.Proofs.Yteabacpalnamdaa
