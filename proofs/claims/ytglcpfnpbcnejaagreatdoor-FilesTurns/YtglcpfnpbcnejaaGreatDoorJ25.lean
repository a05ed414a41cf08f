/-
  The Gen that is to come (nextGen).
-/
import Derived.Test.YtglcpfnpbcnejaaGreatDoorJ24
import Derived.Test.YtglcpfnpbcnejaaGreatDoorJ22
namespace Go.Proofs.YtglcpfnpbcnejaaGreatDoor
open Go.RowKit Go.WideShapes Rm Dk

section
variable {lt : ByteArray → ByteArray → Bool} (tot : ∀ a b, a ≠ b → lt a b = true ∨ lt b a = true) (irr : ∀ a, lt a a = false) (tr : ∀ a b c, lt a b = true → lt b c = true → lt a c = true)
include tot irr tr
end
end Go.Proofs.YtglcpfnpbcnejaaGreatDoor
namespace Go.Proofs.YtglcpfnpbcnejaaGreatDoor
open Go.RowKit Go.WideShapes Rm Dk

/-- Behind a turn no write waits. -/
theorem turn_sure {count : Int} {data D : List Nat} {ws W : Puts} {F : Acts} {other : Nat} {y : DirV} (e : doN count (data, ws) (turnA F other y) = .ok (D, W)) : W = [] := by
  unfold turnA at e
  rw [← List.append_assoc, doN_app] at e
  generalize doN count (data, ws) ((if F = [] then [] else F ++ [flA]) ++ slotA other y) = r at e
  cases r with
  | error c => cases e
  | ok s =>
    have h : doN count s [flA] = .ok (settleN s.1 s.2, []) := rfl
    simp only [h, Except.ok.injEq, Prod.mk.injEq] at e
    exact e.2.symm
section
variable {lt : ByteArray → ByteArray → Bool} (tot : ∀ a b, a ≠ b → lt a b = true ∨ lt b a = true) (irr : ∀ a, lt a a = false) (tr : ∀ a b c, lt a b = true → lt b c = true → lt a c = true)
include tot irr tr
end
end Go.Proofs.YtglcpfnpbcnejaaGreatDoor
namespace Go.Proofs.YtglcpfnpbcnejaaGreatDoor
open Go.RowKit Go.WideShapes Rm Dk

section
variable {lt : ByteArray → ByteArray → Bool} (irr : ∀ a, lt a a = false) (tr : ∀ a b c, lt a b = true → lt b c = true → lt a c = true)
include irr
end
end Go.Proofs.YtglcpfnpbcnejaaGreatDoor
namespace Go.Proofs.YtglcpfnpbcnejaaGreatDoor
open Go.RowKit Go.WideShapes Rm

set_option maxRecDepth 8000 in
set_option maxHeartbeats 2000000 in
theorem nextGen_any (v : Value) (count : Int) (data : List Nat) (ws : Puts) (w : World) (hd : DiskIn w v count data ws) (ho : Okay count data ws) (g : Int) (o : Nat) (hg0 : 0 ≤ g) (hg1 : g < 4611686018427387904) (hoc : (o : Int) + 8 ≤ count) (hc : count ≤ 4096) :
    Calls Tryz.prog 73 #[v, .int .i64 g, .int .i64 (o : Int)] w fun e w' => e = .returned (.int .i64 (genK data ws o g 8 + 1)) ∧ Below w.heap.size w w' := by
  obtain ⟨p, c, q, m, rfl, _⟩ := hd.parts
  have HD : Hid (DiskIn w (.agg #[.int .i64 count, .slice p data.length c, .slice q ws.length m]) count data ws ∧ Okay count data ws) := ⟨hd, ho⟩
  have HG : Hid (∀ k, g ≤ genK data ws o g k ∧ genK data ws o g k < 4611686018427387904) := fun k => ⟨genK_le _ _ _ _ _, genK_hi _ _ _ _ hg1 _⟩
  have HG0 : Hid (0 ≤ g) := hg0
  have hoI : (o : Int) + 8 ≤ 4096 := by omega
  obtain ⟨dl, hdl⟩ : ∃ n, data.length = n := ⟨_, rfl⟩
  obtain ⟨wl, hwl⟩ : ∃ n, ws.length = n := ⟨_, rfl⟩
  rw [hdl, hwl] at HD ⊢
  have HOC : Hid ((o : Int) + 8 ≤ count) := hoc
  clear hd ho hg1 hdl hwl hoc hc
  go_enter Tryz.func73, Tryz.ntmps73
  go_wp2
  go_loopw [1, 9] (fun s i wr => ∃ k : Nat, k ≤ 8 ∧ i = .int .i64 (k : Int) ∧ s = .int .i64 (genK data ws o g k) ∧ Below w.heap.size w wr ∧ wr.heap[w.heap.size]? = some (.cells #[.int .i64 count, .slice p dl c, .slice q wl m] 25 (0, 0))) (fun _ i _ => 8 - (intOf i).toNat)
  case atStart => exact ⟨0, by omega, rfl, rfl, below_alloc _ _, heap_alloc_new _ _⟩
  case round =>
    obtain ⟨k, hk, rfl, rfl, hbw, hbx⟩ := hrel
    have HB : Hid (Below w.heap.size w wr ∧ wr.heap[w.heap.size]? = some (.cells #[.int .i64 count, .slice p dl c, .slice q wl m] 25 (0, 0))) := ⟨hbw, hbx⟩
    obtain ⟨x0, x1, x2⟩ := three_cells hbx
    obtain ⟨G, hG⟩ : ∃ G, genK data ws o g k = G := ⟨_, rfl⟩
    have HGK : Hid (genK data ws o g k = G) := hG
    have hG0 : 0 ≤ G := by have := HG.out k; have := HG0.out; omega
    have hG1 : G < 4611686018427387904 := by have := HG.out k; omega
    rw [hG]
    clear hbw hbx hG
    by_cases hk8 : k < 8
    · have hkI : (k : Int) < 8 := by omega
      have HK : Hid (k < 8) := hk8
      have HON : Hid ((o : Int) + (k : Int) = ((o + k : Nat) : Int)) := by show _ = _; omega
      have hnw := fnow_any _ (o + k) count data ws wr (HD.out.1.below HB.out.1) HD.out.2 (by have := HOC.out; omega)
      clear hk8 hk
      go_wp2_with fail
      rw [HON.out]
      refine hnw.mono ?_
      rintro e w2 ⟨⟨gb, rfl, hbi, hl, _⟩, hb2⟩
      have hbg := begins_any (some ⟨gb, 0, none⟩) 128 128 _ w2 hbi hl.symm (by omega) (by omega)
      obtain ⟨b, hbe⟩ : ∃ b, beg8 (nowN data ws ((o + k : Nat) : Int)) = b := ⟨_, rfl⟩
      rw [hbe] at hbg
      have HS : Hid (genK data ws o g (k + 1) = if b < 4611686018427387904 then max G (b : Nat) else G) := by
        show _ = _
        rw [genK, hbe, HGK.out]
      have HB2 : Hid (Below w.heap.size w w2 ∧ w2.heap[w.heap.size]? = some (.cells #[.int .i64 count, .slice p dl c, .slice q wl m] 25 (0, 0))) := ⟨below_bt HB.out.1 hb2, (hb2.block _ (lt_heap HB.out.2)).trans HB.out.2⟩
      clear hnw hbi hl hb2 hbe HB
      go_wp2_with fail
      refine hbg.mono ?_
      rintro e w3 ⟨rfl, hb3⟩
      have HB3 : Hid (Below w.heap.size w w3 ∧ w3.heap[w.heap.size]? = some (.cells #[.int .i64 count, .slice p dl c, .slice q wl m] 25 (0, 0))) := ⟨below_bt HB2.out.1 hb3, (hb3.block _ (lt_heap HB2.out.2)).trans HB2.out.2⟩
      clear hbg hb3 HB2
      by_cases hb : b < 4611686018427387904
      · have hbI : (b : Int) < 4611686018427387904 := by omega
        have hbw : IntKind.i64.wrap (b : Int) = (b : Int) := by rw [IntKind.wrap_i64]; omega
        have HS1 : Hid (genK data ws o g (k + 1) = max G (b : Nat)) := by show _ = _; rw [HS.out, if_pos hb]
        clear HS hb
        go_wp2
        go_roundw
        case rel => exact ⟨k + 1, HK.out, by go_num, by rw [HS1.out], HB3.out⟩
        case measure => have := HK.out; simp [intOf]; omega
      · have hbI : decide ((b : Int) < 4611686018427387904) = false := decide_eq_false (by omega)
        have HS1 : Hid (genK data ws o g (k + 1) = G) := by show _ = _; rw [HS.out, if_neg hb]
        clear HS hb
        go_wp2
        go_roundw
        case rel => exact ⟨k + 1, HK.out, by go_num, by rw [HS1.out], HB3.out⟩
        case measure => have := HK.out; simp [intOf]; omega
    · obtain rfl : k = 8 := by omega
      have HZ : Hid (genK data ws o g 8 = G) := HGK.out
      clear hk8 hk
      go_wp2
      go_ret
      exact ⟨by rw [HZ.out]; rfl, HB.out.1⟩
end Go.Proofs.YtglcpfnpbcnejaaGreatDoor
