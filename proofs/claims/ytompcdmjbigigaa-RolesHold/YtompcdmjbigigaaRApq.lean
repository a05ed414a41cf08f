/-
  slices.AppendSeq of a set's names onto a row of one's own.
-/
import Derived.Test.YtompcdmjbigigaaRSeq
namespace Go.Proofs.Ytompcdmjbigigaa
open Go.RowKit Go.WideShapes Go.Joins Go.Maps Go.Sort Go.Shelf
attribute [local go_sem] Oper.semAt_some

theorem keeps_walks {W W' : World} (h : KeepsOthers W W') : KeepsWalks W W' := ⟨h.size, fun k o hk hw => h.same k o hk (Obj.not_cells_of_walk hw)⟩
theorem ownsRow_slice {W : World} {base : Nat} {e : TypeId} {size : Nat} {v : Value} {k : Nat} {xs : List Value} (h : W.ownsRow base e size v k xs) : ∃ q c, v = .slice q k c := by
  rcases h.2 with ⟨rfl, rfl⟩ | ⟨g, cap, _, rfl, _⟩
  · exact ⟨_, _, rfl⟩
  · exact ⟨_, _, rfl⟩
theorem info_str : (Try.prog.info? 9).map (fun i => (i.zero, i.size, i.bytes)) = some (some (.string ⟨#[]⟩), 1, 16) := by kernel_rfl
set_option maxRecDepth 100000 in
set_option maxHeartbeats 2000000 in
theorem appendSeq_in (F : Fence) (m : Nat) (hF : ∀ f, F.fn f) (hro : F.round = none) (hm3 : 3 ≤ m) (n₀ N : Nat) (v0 : Value) (k0 : Nat) (xs : List Value) (Bm : Nat) (S Sp : List (List UInt8) → Prop) (w : World) (h0 : w.ownsRow n₀ 9 1 v0 k0 xs) (hn₀ : n₀ ≤ w.heap.size)
    (hseq : SeqStops F (m - 1) Try.prog 43 #[.pointer (some ⟨Bm, 0, none⟩)] encStr S Sp N w) (hN : k0 + N ≤ 1000000) :
    CallsIn F m Try.prog 45 #[v0, .func (.func 43) #[] #[.pointer (some ⟨Bm, 0, none⟩)]] w fun e w' => ∃ v ss, e = .returned v ∧ S ss ∧ w'.ownsRow n₀ 9 1 v (k0 + ss.length) (xs ++ ss.map encStr) ∧ Below n₀ w w' := by
  have h1 : 1 ≤ m := by omega
  obtain ⟨q, c, rfl⟩ := ownsRow_slice h0
  obtain ⟨i0, hi, hz0, hz1, hz2⟩ := info_parts info_str
  refine callsIn_of_wp_marks Try.func45 rfl (hF _) ?_ hro
  simp only [Try.ntmps45, List.size_toArray, List.length_cons, List.length_nil, Nat.reduceAdd, Nat.reduceSub, Array.replicate_succ, Array.replicate_zero, List.push_toArray, List.append_toArray, List.nil_append, List.cons_append]
  gi_wp2
  have bO := Boxed.new w 27 (.slice q k0 c)
  have hB0 : RowKit.Below n₀ w (w.alloc (.cells #[.slice q k0 c] 27)) := (RowKit.Below.refl _ w).alloc hn₀ _
  refine wpIn_rangeFunc_ownG hro h1 (gf := 43) (lb := #[.pointer (some ⟨Bm, 0, none⟩)]) rfl (hF _) (enters_of Try.func43 (by kernel_rfl) rfl)
    (hseq.later ((RowKit.Below.refl _ w).alloc (Nat.le_refl _) _)) walksK_t walksK_b (RowKit.Below.refl _ _) (fun _ => rfl)
    (fun pre W => (∃ v, Boxed W w.heap.size 27 v ∧ W.ownsRow n₀ 9 1 v (k0 + pre.length) (xs ++ pre.map encStr) ∧ True) ∧ RowKit.Below n₀ w W)
    (fun _ _ _ => False)
    (OwnFrom.and (Own.from (holdsRow_own n₀ w.heap.size 27 9 1 (fun pre : List (List UInt8) => k0 + pre.length) (fun pre => xs ++ pre.map encStr) (fun _ _ => True)) _) (ownFrom_below hn₀ (by simp; omega)))
    (fun _ _ _ _ _ hs _ _ => hs)
    ⟨⟨_, bO, by simpa using h0.alloc _, trivial⟩, hB0⟩
    (fun x => { tmps := #[.slice q k0 c, .func (.func 43) #[] #[.pointer (some ⟨Bm, 0, none⟩)], .pointer (some ⟨w.heap.size, 0, none⟩), undef, .slice none 0 0, encStr x, .func (.func 43) #[] #[.pointer (some ⟨Bm, 0, none⟩)], encStr x, undef, undef, undef, undef, undef], defers := [] }) ?assign ?body ?done ?stop
  case assign =>
    intro l x W K hK
    gi_wp2
    exact hK
  case body =>
    rintro l pre x W ⟨⟨v, hv, hrow, _⟩, hB⟩ hlt
    have hc := hv.cell
    gi_wp2_with (gi_at_builtin; refine wpListIn_append_own _ rfl _ _ 27 rfl n₀ 9 i0 (.string ⟨#[]⟩) 1 16 Try.underlying27 hi hz0 hz1 hz2 rfl (by decide) _ _ _ rfl (hrow.alloc _) ⟨W.heap.size, 0, none⟩ 1 1 [encStr x] rfl rfl (cell_one_new _ _ _) (by simp [Value.oneCell', encStr]) (by unfold maxLen; omega) (by omega) (by have := hB.size; simp; omega) ?_; intro v' w1 hown' hgrow _; obtain ⟨g', cap', rfl⟩ := ownsRow_succ hown'; obtain ⟨hv1, hv2, hr2, hk2, hb2⟩ := hv.appended (by decide) hrow (Nat.le_trans hn₀ hB.size) hn₀ hown' hgrow; have hc1 := hv1.cell; have hf1 := hv1.frozen)
    exact ⟨hk2.from _, keeps_walks hk2, ⟨_, hv2, by simpa [List.append_assoc, Nat.add_assoc] using hr2, trivial⟩, hB.trans hb2⟩
  case done =>
    rintro D ys W hD hS ⟨⟨v, hv, hrow, _⟩, hB⟩ hK
    have hc := hv.cell
    gi_wp2
    refine ⟨by simp, .inl ⟨_, _, rfl, run_takeDeferred hK, ?_⟩⟩
    exact ⟨_, results_tmp rfl _ _ _, v, ys, rfl, hS, ownsRow_putObj hrow _ hK rfl, hB.trans (belowK_b (w := w) hn₀ W D _ _ (by simp at hD; omega) hK rfl rfl)⟩
  case stop =>
    rintro D c pre W _ _ h _
    exact h.elim
theorem appendSeq_any (n₀ : Nat) (v0 : Value) (xs : List ByteArray) (Bm b n : Nat) (l : List ByteArray) (w : World) (h0 : OwnS w n₀ v0 xs) (hn₀ : n₀ ≤ w.heap.size) (hB : Bm < w.heap.size) (hm : w.cell? ⟨Bm, 0, none⟩ = some (.map (some b))) (h : SetAt w b n l) (hn : n ≤ 1000) (hx : xs.length ≤ 100000) :
    Calls Try.prog 45 #[v0, .func (.func 43) #[] #[.pointer (some ⟨Bm, 0, none⟩)]] w fun e w' => ∃ v ks, e = .returned v ∧ OwnS w' n₀ v (xs ++ ks) ∧ (∀ s, s ∈ ks ↔ s ∈ l) ∧ ks.length ≤ n ∧ Below n₀ w w' := by
  have hsz := World.ownsMap.size_le h
  refine (callsIn_wide (n := 4)).1 ?_
  refine (appendSeq_in Fence.wide 4 (fun _ => trivial) rfl (by omega) n₀ _ v0 xs.length (xs.map Value.string) Bm _ _ w h0.row hn₀ (stops_any Bm b n l w hB hm h 3 (by omega)) (by omega)).mono ?_
  rintro e w' ⟨v, ss, rfl, ⟨hp, hmem⟩, hrow, hb⟩
  obtain ⟨k1, k2, k3⟩ := keys_len h hp
  refine ⟨v, ss.map toB, rfl, ⟨?_, fun s hs => ?_⟩, keys_mem hmem, by rw [List.length_map]; exact k1, hb⟩
  · rw [List.length_append, List.length_map, List.map_append, ← enc_map]; exact hrow
  · rcases List.mem_append.1 hs with h1 | h1
    · exact h0.fits s h1
    · obtain ⟨x, hx, rfl⟩ := List.mem_map.1 h1
      exact k3 x hx
end Go.Proofs.Ytompcdmjbigigaa
