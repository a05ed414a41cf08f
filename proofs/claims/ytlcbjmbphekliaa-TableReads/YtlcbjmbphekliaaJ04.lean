/-
  The first and the last key of a page, of pages; how many there are; an entry of a key.
-/
import Derived.Test.YtlcbjmbphekliaaJ03
import Derived.Deep.RegionWith
import Derived.Deep.Cut
import Derived.Laws.ResultCell
namespace Go.Proofs.Ytlcbjmbphekliaa
open Go.RowKit Go.WideShapes
variable {B : Nat}

theorem grown_set (w : World) (g i : Nat) (v : Value) : w.grownBy (w.setCell ⟨g, i, none⟩ v) (some g) :=
  ⟨rfl, rfl, rfl, by simp, fun k _ hn => Below.heap_setCell w ⟨g, i, none⟩ v k (fun e => hn (by rw [e]))⟩
theorem block_set {w : World} {g i : Nat} {cs : Array Value} {t : TypeId} {fr : Nat × Nat} (h : w.heap[g]? = some (.cells cs t fr)) (v : Value) : (w.setCell ⟨g, i, none⟩ v).heap[g]? = some (.cells (cs.setIfInBounds i v) t fr) := by
  rw [setCell_eq_setRow w g i cs t fr v h]
  exact setRow_heap w g cs _ t _ h
theorem grown_refl (w : World) (r : Option Nat) : w.grownBy w r := ⟨rfl, rfl, rfl, Nat.le_refl _, fun _ _ _ => rfl⟩
theorem grown_trans {a b c : World} {r : Option Nat} (h1 : a.grownBy b r) (h2 : b.grownBy c r) : a.grownBy c r :=
  ⟨h2.os.trans h1.os, h2.tape.trans h1.tape, h2.output.trans h1.output, Nat.le_trans h1.size h2.size, fun k hk hn => (h2.block k (Nat.lt_of_lt_of_le hk h1.size) hn).trans (h1.block k hk hn)⟩
theorem grown_below {a b : World} (h : Below a.heap.size a b) (r : Option Nat) : a.grownBy b r := ⟨h.os, h.tape, h.output, h.size, fun k hk _ => h.block k hk⟩
theorem two2 {w : World} {g : Nat} {a b : Value} {t : TypeId} (h : w.heap[g]? = some (.cells #[a, b] t (0, 0))) : (w.cell? ⟨g, 0, none⟩ = some a ∧ w.cell? ⟨g, 1, none⟩ = some b) ∧ w.frozen? ⟨g, 0, none⟩ = false ∧ w.frozen? ⟨g, 1, none⟩ = false :=
  ⟨⟨cell_of_row w _ 0 _ _ _ h, cell_of_row w _ 1 _ _ _ h⟩, by simp [World.frozen?, h], by simp [World.frozen?, h]⟩
/-- A slice cut from k on, and one cut at k with no room behind. -/
theorem cut_from (p : Option Addr) (n c k : Nat) (xs : List Nat) (hn : n = xs.length) (hc : n ≤ c) (hk : k ≤ n) (hp : p = none → c = 0) :
    ∃ p', (∀ w, (Instr.slice 22 (.slice p n c) (some (.int .i64 k)) none none).run Try.prog w = .ok (.slice p' (n - k) (c - k)) w) ∧ (∀ w, BIn w p xs → BIn w p' (xs.drop k)) ∧ (p' = none → c - k = 0) ∧ (∀ a', p' = some a' → ∃ a, p = some a ∧ a'.block = a.block) := by
  have hr : ∀ w, (Instr.slice 22 (.slice p n c) (some (.int .i64 k)) none none).run Try.prog w = .ok (.slice (if c = k then p else p.map (·.add (k * 1))) (n - k) (c - k)) w := by
    intro w
    rw [run_slice_l w 22 p n c (by kernel_rfl) .i64 k (by omega) (by omega)]
    have hs : (sizeOf (Try.prog.elem 22)).run Try.prog w = .ok 1 w := by kernel_rfl
    rw [hs]
    rfl
  cases p with
  | none =>
    have hc0 := hp rfl
    have : k = 0 := by omega
    subst this
    exact ⟨_, hr, fun w h => by rw [List.drop_zero, if_pos hc0]; exact h, fun _ => by omega, fun a' h => by split at h <;> simp at h⟩
  | some a =>
    refine ⟨_, hr, fun w h => ?_, fun h => by split at h <;> simp at h, fun a' h => ?_⟩
    · rcases Nat.eq_zero_or_pos xs.length with h0 | h0
      · refine ⟨fun hp => absurd hp (by rw [List.length_drop]; omega), fun c hc => h.2 c (List.mem_of_mem_drop hc)⟩
      obtain ⟨b, o, e, _⟩ := h.1 h0
      simp only [Option.some.injEq] at e
      subst e
      have := bin_part h c k (by omega) (xs.length - k)
      rw [List.take_of_length_le (by rw [List.length_drop]; omega)] at this
      have e2 : (if c = k then some (⟨b, o, none⟩ : Addr) else (some (⟨b, o, none⟩ : Addr)).map (·.add (k * 1))) = (if c = k then some ⟨b, o, none⟩ else some ⟨b, o + k, none⟩) := by
        split
        · rfl
        · rw [Option.map_some, add_plain, Nat.mul_one]
      rw [e2]
      exact this
    · split at h
      · exact ⟨a, rfl, by rw [Option.some.inj h]⟩
      · rw [Option.map_some] at h
        refine ⟨a, rfl, ?_⟩
        rw [← Option.some.inj h]
        simp only [Addr.add]
        split <;> rfl
theorem cut_upto (p : Option Addr) (n c k : Nat) (xs : List Nat) (hn : n = xs.length) (hc : n ≤ c) (hk : k ≤ n) (hp : p = none → c = 0) :
    ∃ p', (∀ w, (Instr.slice 22 (.slice p n c) none (some (.int .i64 k)) (some (.int .i64 k))).run Try.prog w = .ok (.slice p' k k) w) ∧ (∀ w, BIn w p xs → BIn w p' (xs.take k)) := by
  have hr : ∀ w, (Instr.slice 22 (.slice p n c) none (some (.int .i64 k)) (some (.int .i64 k))).run Try.prog w = .ok (.slice (if k = 0 then p else p.map (·.add (0 * 1))) (k - 0) (k - 0)) w := by
    intro w
    rw [run_slice_hm w 22 p n c (by kernel_rfl) .i64 .i64 k k (by omega) (by omega) (by omega)]
    have hs : (sizeOf (Try.prog.elem 22)).run Try.prog w = .ok 1 w := by kernel_rfl
    rw [hs]
    rfl
  refine ⟨_, hr, fun w h => ?_⟩
  have e2 : (if k = 0 then p else p.map (·.add (0 * 1))) = p := by
    split
    · rfl
    · cases p with
      | none => rfl
      | some a => rw [Option.map_some, Nat.zero_mul]; rcases a with ⟨b, o, s⟩; cases s <;> simp [Addr.add]
  rw [e2]
  exact h.take' k
structure Wkd (B : Nat) (w : World) (g : Nat) (xs : List Nat) (lost : Bool) (p : Option Addr) (c : Nat) : Prop where
  box : w.heap[g]? = some (.cells #[.slice p xs.length c, .bool lost] 139 (0, 0))
  bin : BIn w p xs
  cap : xs.length ≤ c ∧ c ≤ maxLen ∧ (p = none → c = 0)
  old : 0 < xs.length → ∀ a, p = some a → a.block < B
theorem bin_grown {w w' : World} {g : Nat} {a b : Value} {t : TypeId} {p : Option Addr} {xs : List Nat} (hb : w.heap[g]? = some (.cells #[a, b] t (0, 0))) (ha : ∀ z, a ≠ .int .u8 z) (hbb : ∀ z, b ≠ .int .u8 z) (h : BIn w p xs) (hg : w.grownBy w' (some g)) : BIn w' p xs := by
  refine ⟨fun hp => ?_, h.2⟩
  obtain ⟨b', o, rfl, hc⟩ := h.1 hp
  refine ⟨b', o, rfl, fun i hi => ?_⟩
  have e := hc i hi
  have hne : b' ≠ g := by
    intro e'
    subst e'
    rw [cell_of_row w b' (o + i) _ _ _ hb] at e
    rcases hoi : o + i with _ | _ | k
    · rw [hoi] at e; simp at e; exact ha _ e
    · rw [hoi] at e; simp at e; exact hbb _ e
    · rw [hoi] at e; simp at e
  have hlt := World.block_lt_of_cell? _ _ e
  have hbk : w'.heap[b']? = w.heap[b']? := hg.block b' hlt (fun e => hne (Option.some.inj e))
  rw [← e]
  unfold World.cell?
  simp only [hbk]
theorem Wkd.grow {w w' : World} {g : Nat} {xs : List Nat} {lost : Bool} {p : Option Addr} {c : Nat} (h : Wkd B w g xs lost p c) {q : Option Addr} {ys : List Nat} (hq : BIn w q ys) (hg : w.grownBy w' (some g)) : BIn w' q ys := bin_grown h.box (by simp) (by simp) hq hg
theorem Wkd.below {w w' : World} {g : Nat} {xs : List Nat} {lost : Bool} {p : Option Addr} {c : Nat} (h : Wkd B w g xs lost p c) (hb : Below w.heap.size w w') : Wkd B w' g xs lost p c := ⟨block_below h.box hb, h.bin.below hb, h.cap, h.old⟩
theorem Wkd.lose {w : World} {g : Nat} {xs : List Nat} {lost : Bool} {p : Option Addr} {c : Nat} (h : Wkd B w g xs lost p c) : Wkd B (w.setCell ⟨g, 1, none⟩ (.bool true)) g xs true p c := ⟨block_set h.box _, h.grow h.bin (grown_set _ _ _ _), h.cap, h.old⟩
theorem Wkd.go {w : World} {g : Nat} {xs : List Nat} {lost : Bool} {p : Option Addr} {c k : Nat} (h : Wkd B w g xs lost p c) {p' : Option Addr} (hb : BIn w p' (xs.drop k)) (hp : p' = none → c - k = 0) (ho : ∀ a', p' = some a' → ∃ a, p = some a ∧ a'.block = a.block) : Wkd B (w.setCell ⟨g, 0, none⟩ (.slice p' (xs.length - k) (c - k))) g (xs.drop k) lost p' (c - k) :=
  ⟨by rw [List.length_drop]; exact block_set h.box _, h.grow hb (grown_set _ _ _ _), by have := h.cap; rw [List.length_drop]; exact ⟨by omega, by omega, hp⟩, fun hp a' ha => by obtain ⟨a, h1, h2⟩ := ho a' ha; rw [h2]; exact h.old (by rw [List.length_drop] at hp; omega) a h1⟩
theorem Wkd.own {w w' : World} {g : Nat} {xs : List Nat} {lost : Bool} {p : Option Addr} {c : Nat} (h : Wkd B w g xs lost p c) {r : Option Nat} (hg : w.grownBy w' r) (hr : ∀ k, r = some k → B ≤ k ∧ k ≠ g) : Wkd B w' g xs lost p c := by
  refine ⟨(hg.block g (lt_heap h.box) (fun e => (hr g e.symm).2 rfl)).trans h.box, ⟨fun hp => ?_, h.bin.2⟩, h.cap, h.old⟩
  obtain ⟨b', o, e, hc⟩ := h.bin.1 hp
  refine ⟨b', o, e, fun i hi => ?_⟩
  have e2 := hc i hi
  have hlt := World.block_lt_of_cell? _ _ e2
  have hb := h.old hp _ e
  have hbk : w'.heap[b']? = w.heap[b']? := hg.block b' hlt (fun e => by have := (hr b' e.symm).1; exact absurd hb (by simp only; omega))
  rw [← e2]
  unfold World.cell?
  simp only [hbk]
theorem numW_none {lim : Nat} {xs : List Nat} {lost : Bool} (h : readN xs = none) : numW lim ⟨xs, lost⟩ = (0, ⟨xs, true⟩) := by unfold numW; simp only [h]
theorem numW_big {lim : Nat} {xs : List Nat} {lost : Bool} {n k : Nat} (h : readN xs = some (n, k)) (hn : lim < n) : numW lim ⟨xs, lost⟩ = (0, ⟨xs, true⟩) := by unfold numW; simp only [h]; rw [if_neg (by omega)]
theorem numW_some {lim : Nat} {xs : List Nat} {lost : Bool} {n k : Nat} (h : readN xs = some (n, k)) (hn : n ≤ lim) : numW lim ⟨xs, lost⟩ = (n, ⟨xs.drop k, lost⟩) := by unfold numW; simp only [h]; rw [if_pos hn]
set_option maxRecDepth 8000 in
set_option maxHeartbeats 1000000 in
theorem number_any (g lim : Nat) (xs : List Nat) (lost : Bool) (p : Option Addr) (c : Nat) (w : World) (h : Wkd B w g xs lost p c) (hx : xs.length ≤ 1000000) (hlim : lim ≤ 2147483647) (n : Nat) (xs' : List Nat) (lost' : Bool) (hR : numW lim ⟨xs, lost⟩ = (n, ⟨xs', lost'⟩)) :
    Calls Try.prog 102 #[.pointer (some ⟨g, 0, none⟩), .int .i64 (lim : Int)] w fun e w' => e = .returned (.int .i64 (n : Int)) ∧ (∃ p' c', Wkd B w' g xs' lost' p' c') ∧ w.grownBy w' (some g) := by
  obtain ⟨⟨c0, c1⟩, z0, z1⟩ := two2 h.box
  have HW : Hid (Wkd B w g xs lost p c) := h
  have hl1 : IntKind.u64.wrap (lim : Int) = (lim : Int) := by rw [IntKind.wrap_u64]; omega
  rcases hr : readN xs with _ | ⟨m, k⟩
  · rw [numW_none hr] at hR
    simp only [Prod.mk.injEq, Wk.mk.injEq] at hR
    obtain ⟨rfl, rfl, rfl⟩ := hR
    have HRD := read_none p xs.length c xs w rfl h.bin (by unfold maxLen; omega) hr
    clear h hr hx hlim
    go_enter Try.func102, Try.ntmps102
    go_wp2_with fail
    refine HRD.mono ?_
    rintro e w1 ⟨rfl, rfl⟩
    go_wp2
    go_ret
    exact ⟨rfl, ⟨p, c, HW.out.lose⟩, grown_set _ _ _ _⟩
  · have HRD := read_some p xs.length c xs w m k rfl h.bin (by unfold maxLen; omega) hr
    obtain ⟨k1, k2, k3, k4⟩ := readN_some hr
    rcases Nat.lt_or_ge lim m with hm | hm
    · rw [numW_big hr hm] at hR
      simp only [Prod.mk.injEq, Wk.mk.injEq] at hR
      obtain ⟨rfl, rfl, rfl⟩ := hR
      have g1 : decide ((lim : Int) < (m : Int)) = true := decide_eq_true (by omega)
      have g1' : decide (lim < m) = true := decide_eq_true hm
      clear h hr hx hlim k4
      go_enter Try.func102, Try.ntmps102
      go_wp2_with fail
      refine HRD.mono ?_
      rintro e w1 ⟨rfl, rfl⟩
      go_wp2
      go_ret
      exact ⟨rfl, ⟨p, c, HW.out.lose⟩, grown_set _ _ _ _⟩
    · rw [numW_some hr hm] at hR
      simp only [Prod.mk.injEq, Wk.mk.injEq] at hR
      obtain ⟨rfl, rfl, rfl⟩ := hR
      have g1 : decide ((lim : Int) < (m : Int)) = false := decide_eq_false (by omega)
      have g1' : ¬ lim < m := by omega
      have g2 : IntKind.i64.wrap (m : Int) = (m : Int) := by rw [IntKind.wrap_i64]; omega
      obtain ⟨p', hs, hbn, hpn, hpo⟩ := cut_from p xs.length c k xs rfl h.cap.1 k2 h.cap.2.2
      have HB : Hid (BIn w p' (xs.drop k) ∧ (p' = none → c - k = 0) ∧ (∀ a', p' = some a' → ∃ a, p = some a ∧ a'.block = a.block)) := ⟨hbn w h.bin, hpn, hpo⟩
      clear h hr hx hlim hm k4 k1 k2 k3 hbn hpn hpo
      go_enter Try.func102, Try.ntmps102
      go_wp2_with fail
      refine HRD.mono ?_
      rintro e w1 ⟨rfl, rfl⟩
      go_wp2
      go_ret
      exact ⟨rfl, ⟨p', c - k, HW.out.go HB.out.1 HB.out.2.1 HB.out.2.2⟩, grown_set _ _ _ _⟩
theorem textW_some {lim : Nat} {s s1 : Wk} {n : Nat} (h : numW lim s = (n, s1)) (hn : n ≤ s1.rest.length) : textW lim s = (s1.rest.take n, ⟨s1.rest.drop n, s1.lost⟩) := by unfold textW; rw [h]; simp only; rw [if_pos hn]
theorem textW_none {lim : Nat} {s s1 : Wk} {n : Nat} (h : numW lim s = (n, s1)) (hn : s1.rest.length < n) : textW lim s = ([], ⟨s1.rest, true⟩) := by unfold textW; rw [h]; simp only; rw [if_neg (by omega)]
theorem bin_nil (w : World) : BIn w none [] := ⟨fun h => absurd h (by simp), by simp⟩
set_option maxRecDepth 8000 in
set_option maxHeartbeats 1000000 in
theorem text_w (g lim : Nat) (xs : List Nat) (lost : Bool) (p : Option Addr) (c : Nat) (w : World) (h : Wkd B w g xs lost p c) (hx : xs.length ≤ 1000000) (hlim : lim ≤ 2147483647) (ys xs' : List Nat) (lost' : Bool) (hR : textW lim ⟨xs, lost⟩ = (ys, ⟨xs', lost'⟩)) :
    Calls Try.prog 104 #[.pointer (some ⟨g, 0, none⟩), .int .i64 (lim : Int)] w fun e w' => (∃ p1 c1, e = .returned (.slice p1 ys.length c1) ∧ BIn w' p1 ys) ∧ (∃ p' c', Wkd B w' g xs' lost' p' c') ∧ w.grownBy w' (some g) := by
  obtain ⟨m, s1, hm⟩ : ∃ m s1, numW lim ⟨xs, lost⟩ = (m, s1) := ⟨_, _, rfl⟩
  obtain ⟨x1, l1⟩ := s1
  have HN := number_any g lim xs lost p c w h hx hlim m x1 l1 hm
  have hx1 : x1.length ≤ 1000000 := by have := numW_short lim ⟨xs, lost⟩; rw [hm] at this; exact Nat.le_trans this hx
  have hml : m ≤ 2147483647 := by have := numW_le lim ⟨xs, lost⟩; rw [hm] at this; exact Nat.le_trans this hlim
  have hmi : (m : Int) ≤ 2147483647 := by omega
  have HT : Hid (textW lim ⟨xs, lost⟩ = (ys, ⟨xs', lost'⟩)) := hR
  have HM : Hid (numW lim ⟨xs, lost⟩ = (m, ⟨x1, l1⟩)) := hm
  clear h hx hlim hR hm hml
  go_enter Try.func104, Try.ntmps104
  go_wp2_with fail
  refine HN.mono ?_
  rintro e w1 ⟨rfl, ⟨p1, c1, hw1⟩, hg1⟩
  obtain ⟨⟨a0, a1⟩, z0, z1⟩ := two2 hw1.box
  have HW : Hid (Wkd B w1 g x1 l1 p1 c1) := hw1
  have HG : Hid (w.grownBy w1 (some g)) := hg1
  rcases Nat.lt_or_ge x1.length m with h1 | h1
  · have e1 := textW_none HM.out h1
    have g1 : decide ((x1.length : Int) < (m : Int)) = true := decide_eq_true (by omega)
    rw [HT.out] at e1
    simp only [Prod.mk.injEq, Wk.mk.injEq] at e1
    obtain ⟨rfl, rfl, rfl⟩ := e1
    clear hw1 hg1 HN hx1 hmi
    go_wp2
    go_ret
    exact ⟨⟨none, 0, rfl, bin_nil _⟩, ⟨p1, c1, HW.out.lose⟩, grown_trans HG.out (grown_set _ _ _ _)⟩
  · have e1 := textW_some HM.out h1
    rw [HT.out] at e1
    simp only [Prod.mk.injEq, Wk.mk.injEq] at e1
    obtain ⟨rfl, rfl, rfl⟩ := e1
    have g1 : decide ((x1.length : Int) < (m : Int)) = false := decide_eq_false (by omega)
    have g1' : ¬ x1.length < m := by omega
    obtain ⟨p', hs, hbn, hpn, hpo⟩ := cut_from p1 x1.length c1 m x1 rfl hw1.cap.1 h1 hw1.cap.2.2
    obtain ⟨p2, hs2, hbn2⟩ := cut_upto p1 x1.length c1 m x1 rfl hw1.cap.1 h1 hw1.cap.2.2
    have HB : Hid (BIn w1 p' (x1.drop m) ∧ (p' = none → c1 - m = 0) ∧ BIn w1 p2 (x1.take m) ∧ m = (x1.take m).length ∧ (∀ a', p' = some a' → ∃ a, p1 = some a ∧ a'.block = a.block)) := ⟨hbn _ hw1.bin, hpn, hbn2 _ hw1.bin, by rw [List.length_take]; omega, hpo⟩
    clear hw1 hg1 HN h1 hx1 hmi hbn hpn hbn2 hpo
    go_wp2
    go_ret
    exact ⟨⟨p2, m, by rw [← HB.out.2.2.2.1]; rfl, HW.out.grow HB.out.2.2.1 (grown_set _ _ _ _)⟩, ⟨p', c1 - m, HW.out.go HB.out.1 HB.out.2.1 HB.out.2.2.2.2⟩, grown_trans HG.out (grown_set _ _ _ _)⟩
end Go.Proofs.Ytlcbjmbphekliaa
namespace Go.Proofs.Ytlcbjmbphekliaa
open Go.RowKit Go.WideShapes
variable {B : Nat}

theorem textW_short (lim : Nat) (s : Wk) : (textW lim s).2.rest.length ≤ s.rest.length := by
  have := numW_short lim s
  unfold textW
  split
  · simp; omega
  · simp; omega
def zE : Array Value := #[.string ByteArray.empty, .string ByteArray.empty, .int .i64 0, .bool false]
def noU8 (C : Array Value) : Prop := ∀ (i : Nat) (z : Int), C[i]? ≠ some (.int .u8 z)
theorem noU8_4 (a b : ByteArray) (s : Int) (g : Bool) : noU8 #[.string a, .string b, .int .i64 s, .bool g] := by
  intro i z
  rcases i with _ | _ | _ | _ | i <;> simp
theorem bin_grownC {w w' : World} {g : Nat} {C : Array Value} {t : TypeId} {fr : Nat × Nat} {p : Option Addr} {xs : List Nat} (hb : w.heap[g]? = some (.cells C t fr)) (hC : noU8 C) (h : BIn w p xs) (hg : w.grownBy w' (some g)) : BIn w' p xs := by
  refine ⟨fun hp => ?_, h.2⟩
  obtain ⟨b', o, rfl, hc⟩ := h.1 hp
  refine ⟨b', o, rfl, fun i hi => ?_⟩
  have e := hc i hi
  have hne : b' ≠ g := by
    intro e'
    subst e'
    rw [cell_of_row w b' (o + i) _ _ _ hb] at e
    exact hC _ _ e
  have hlt := World.block_lt_of_cell? _ _ e
  have hbk : w'.heap[b']? = w.heap[b']? := hg.block b' hlt (fun e => hne (Option.some.inj e))
  rw [← e]
  unfold World.cell?
  simp only [hbk]
theorem four {w : World} {g : Nat} {a b c d : Value} {t : TypeId} (h : w.heap[g]? = some (.cells #[a, b, c, d] t (0, 0))) : (w.cell? ⟨g, 0, none⟩ = some a ∧ w.cell? ⟨g, 1, none⟩ = some b ∧ w.cell? ⟨g, 2, none⟩ = some c ∧ w.cell? ⟨g, 3, none⟩ = some d) ∧ w.frozen? ⟨g, 0, none⟩ = false ∧ w.frozen? ⟨g, 1, none⟩ = false ∧ w.frozen? ⟨g, 2, none⟩ = false ∧ w.frozen? ⟨g, 3, none⟩ = false :=
  ⟨⟨cell_of_row w _ 0 _ _ _ h, cell_of_row w _ 1 _ _ _ h, cell_of_row w _ 2 _ _ _ h, cell_of_row w _ 3 _ _ _ h⟩, by simp [World.frozen?, h], by simp [World.frozen?, h], by simp [World.frozen?, h], by simp [World.frozen?, h]⟩
/-- The walk at g, the result's box (the first block behind w), the entry's box at h. -/
structure Es (B : Nat) (w wc : World) (g : Nat) (xs : List Nat) (lost : Bool) (h : Nat) (a b : ByteArray) (s : Int) (gn : Bool) : Prop where
  wk : ∃ p c, Wkd B wc g xs lost p c
  res : wc.heap[w.heap.size]? = some (.cells zE 29 (0, 0))
  box : wc.heap[h]? = some (.cells #[.string a, .string b, .int .i64 s, .bool gn] 29 (0, 0))
  gr : w.grownBy wc (some g)
  gt : w.heap.size < h
  gl : g < w.heap.size
section
variable {w wc w' : World} {g : Nat} {xs : List Nat} {lost : Bool} {h : Nat} {a b : ByteArray} {s : Int} {gn : Bool}
theorem Es.call (e : Es B w wc g xs lost h a b s gn) (hb : Below wc.heap.size wc w') : Es B w w' g xs lost h a b s gn := by
  obtain ⟨p, c, hw⟩ := e.wk
  exact ⟨⟨p, c, hw.below hb⟩, block_below e.res hb, block_below e.box hb, grown_trans e.gr (grown_below hb _), e.gt, e.gl⟩
theorem Es.walk (e : Es B w wc g xs lost h a b s gn) {xs' : List Nat} {lost' : Bool} (hw : ∃ p c, Wkd B w' g xs' lost' p c) (hg : wc.grownBy w' (some g)) : Es B w w' g xs' lost' h a b s gn := by
  have h1 := e.gt; have h2 := e.gl
  exact ⟨hw, (hg.block _ (lt_heap e.res) (fun e => by have := Option.some.inj e; omega)).trans e.res, (hg.block _ (lt_heap e.box) (fun e => by have := Option.some.inj e; omega)).trans e.box, grown_trans e.gr hg, e.gt, e.gl⟩
theorem Es.lose (e : Es B w wc g xs lost h a b s gn) : Es B w (wc.setCell ⟨g, 1, none⟩ (.bool true)) g xs true h a b s gn := by
  obtain ⟨p, c, hw⟩ := e.wk
  exact e.walk ⟨p, c, hw.lose⟩ (grown_set _ _ _ _)
theorem grown_skip {w wc w' : World} {g h : Nat} (h1 : w.grownBy wc (some g)) (h2 : wc.grownBy w' (some h)) (hh : w.heap.size ≤ h) : w.grownBy w' (some g) :=
  ⟨h2.os.trans h1.os, h2.tape.trans h1.tape, h2.output.trans h1.output, Nat.le_trans h1.size h2.size, fun k hk hn => (h2.block k (Nat.lt_of_lt_of_le hk h1.size) (fun e => by have := Option.some.inj e; omega)).trans (h1.block k hk hn)⟩
theorem wkd_set {p : Option Addr} {c : Nat} (hw : Wkd B wc g xs lost p c) {C : Array Value} {t : TypeId} (hb : wc.heap[h]? = some (.cells C t (0, 0))) (hC : noU8 C) (hne : g ≠ h) (i : Nat) (v : Value) : Wkd B (wc.setCell ⟨h, i, none⟩ v) g xs lost p c :=
  ⟨((grown_set wc h i v).block g (lt_heap hw.box) (fun e => hne (Option.some.inj e))).trans hw.box, bin_grownC hb hC hw.bin (grown_set _ _ _ _), hw.cap, hw.old⟩
theorem Es.setK (e : Es B w wc g xs lost h a b s gn) (a' : ByteArray) : Es B w (wc.setCell ⟨h, 0, none⟩ (.string a')) g xs lost h a' b s gn := by
  obtain ⟨p, c, hw⟩ := e.wk
  have h1 := e.gt; have h2 := e.gl
  exact ⟨⟨p, c, wkd_set hw e.box (noU8_4 _ _ _ _) (by omega) _ _⟩, ((grown_set wc h 0 _).block _ (lt_heap e.res) (fun e => by have := Option.some.inj e; omega)).trans e.res, block_set e.box _, grown_skip e.gr (grown_set _ _ _ _) (by omega), e.gt, e.gl⟩
theorem Es.setV (e : Es B w wc g xs lost h a b s gn) (b' : ByteArray) : Es B w (wc.setCell ⟨h, 1, none⟩ (.string b')) g xs lost h a b' s gn := by
  obtain ⟨p, c, hw⟩ := e.wk
  have h1 := e.gt; have h2 := e.gl
  exact ⟨⟨p, c, wkd_set hw e.box (noU8_4 _ _ _ _) (by omega) _ _⟩, ((grown_set wc h 1 _).block _ (lt_heap e.res) (fun e => by have := Option.some.inj e; omega)).trans e.res, block_set e.box _, grown_skip e.gr (grown_set _ _ _ _) (by omega), e.gt, e.gl⟩
theorem Es.setS (e : Es B w wc g xs lost h a b s gn) (s' : Int) : Es B w (wc.setCell ⟨h, 2, none⟩ (.int .i64 s')) g xs lost h a b s' gn := by
  obtain ⟨p, c, hw⟩ := e.wk
  have h1 := e.gt; have h2 := e.gl
  exact ⟨⟨p, c, wkd_set hw e.box (noU8_4 _ _ _ _) (by omega) _ _⟩, ((grown_set wc h 2 _).block _ (lt_heap e.res) (fun e => by have := Option.some.inj e; omega)).trans e.res, block_set e.box _, grown_skip e.gr (grown_set _ _ _ _) (by omega), e.gt, e.gl⟩
theorem Es.setG (e : Es B w wc g xs lost h a b s gn) (g' : Bool) : Es B w (wc.setCell ⟨h, 3, none⟩ (.bool g')) g xs lost h a b s g' := by
  obtain ⟨p, c, hw⟩ := e.wk
  have h1 := e.gt; have h2 := e.gl
  exact ⟨⟨p, c, wkd_set hw e.box (noU8_4 _ _ _ _) (by omega) _ _⟩, ((grown_set wc h 3 _).block _ (lt_heap e.res) (fun e => by have := Option.some.inj e; omega)).trans e.res, block_set e.box _, grown_skip e.gr (grown_set _ _ _ _) (by omega), e.gt, e.gl⟩
/-- Behind the last store: what the call leaves. -/
theorem Es.fin (e : Es B w wc g xs lost h a b s gn) (v0 v1 v2 v3 : Value) :
    (∃ p c, Wkd B ((((wc.setCell ⟨w.heap.size, 0, none⟩ v0).setCell ⟨w.heap.size, 1, none⟩ v1).setCell ⟨w.heap.size, 2, none⟩ v2).setCell ⟨w.heap.size, 3, none⟩ v3) g xs lost p c) ∧ w.grownBy ((((wc.setCell ⟨w.heap.size, 0, none⟩ v0).setCell ⟨w.heap.size, 1, none⟩ v1).setCell ⟨w.heap.size, 2, none⟩ v2).setCell ⟨w.heap.size, 3, none⟩ v3) (some g) := by
  obtain ⟨p, c, hw⟩ := e.wk
  have h2 := e.gl
  have hg : wc.grownBy ((((wc.setCell ⟨w.heap.size, 0, none⟩ v0).setCell ⟨w.heap.size, 1, none⟩ v1).setCell ⟨w.heap.size, 2, none⟩ v2).setCell ⟨w.heap.size, 3, none⟩ v3) (some w.heap.size) := grown_trans (grown_trans (grown_trans (grown_set _ _ _ _) (grown_set _ _ _ _)) (grown_set _ _ _ _)) (grown_set _ _ _ _)
  refine ⟨⟨p, c, (hg.block g (lt_heap hw.box) (fun e => by have := Option.some.inj e; omega)).trans hw.box, bin_grownC e.res (noU8_4 _ _ _ _) hw.bin hg, hw.cap, hw.old⟩, grown_skip e.gr hg (Nat.le_refl _)⟩
theorem es_new1 {w1 w2 : World} (hg1 : w.grownBy w1 (some g)) (hr : w1.heap[w.heap.size]? = some (.cells zE 29 (0, 0))) (hgl : g < w.heap.size) (hg2 : w1.drew.grownBy w2 (some g)) (hw : ∃ p c, Wkd B w2 g xs lost p c) (key : ByteArray) : Es B w (w2.alloc (.cells #[.string key, .string ⟨#[]⟩, .int .i64 0, .bool false] 29)) g xs lost w2.heap.size key ByteArray.empty 0 false := by
  obtain ⟨p, c, hw⟩ := hw
  have l1 := lt_heap hr
  have s2 : w1.heap.size ≤ w2.heap.size := hg2.size
  have hr2 : w2.heap[w.heap.size]? = some (.cells zE 29 (0, 0)) := (hg2.block _ l1 (fun e => by have := Option.some.inj e; omega)).trans hr
  have hg3 : w.grownBy w2 (some g) := grown_trans hg1 ⟨hg2.os, hg2.tape, hg2.output, hg2.size, hg2.block⟩
  exact ⟨⟨p, c, hw.below (below_alloc _ _)⟩, block_below hr2 (below_alloc _ _), heap_alloc_new _ _, grown_trans hg3 (grown_below (below_alloc _ _) _), by omega, hgl⟩
theorem es_new2 {w1 w2 : World} (hg1 : w.grownBy w1 (some g)) (hr : w1.heap[w.heap.size]? = some (.cells zE 29 (0, 0))) (hgl : g < w.heap.size) {o : Obj} (hg2 : (w1.alloc o).drew.grownBy w2 (some g)) (hw : ∃ p c, Wkd B w2 g xs lost p c) (hz : w2.heap[w1.heap.size]? = some (.cells zE 29 (0, 0))) (key : ByteArray) : Es B w ((((w2.setCell ⟨w1.heap.size, 0, none⟩ (.string key)).setCell ⟨w1.heap.size, 1, none⟩ (.string ⟨#[]⟩)).setCell ⟨w1.heap.size, 2, none⟩ (.int .i64 0)).setCell ⟨w1.heap.size, 3, none⟩ (.bool false)) g xs lost w1.heap.size key ByteArray.empty 0 false := by
  have l1 := lt_heap hr
  have hb := below_alloc w1 o
  have hr1 : (w1.alloc o).drew.heap[w.heap.size]? = some (.cells zE 29 (0, 0)) := (hb.block _ l1).trans hr
  have hr2 : w2.heap[w.heap.size]? = some (.cells zE 29 (0, 0)) := (hg2.block _ (lt_heap hr1) (fun e => by have := Option.some.inj e; omega)).trans hr1
  have hg3 : w.grownBy w2 (some g) := grown_trans (grown_trans hg1 (grown_below hb _)) ⟨hg2.os, hg2.tape, hg2.output, hg2.size, hg2.block⟩
  have e0 : Es B w w2 g xs lost w1.heap.size ByteArray.empty ByteArray.empty 0 false := ⟨hw, hr2, hz, hg3, l1, hgl⟩
  exact (((e0.setK key).setV ByteArray.empty).setS 0).setG false
end
end Go.Proofs.Ytlcbjmbphekliaa
namespace Go.Proofs.Ytlcbjmbphekliaa
open Go.RowKit Go.WideShapes
variable {B : Nat}

theorem str_app (x y : ByteArray) : strOf (numsOf x ++ numsOf y) = x ++ y := by
  apply ba_ext.1
  rw [strOf_list, List.map_append]
  have h : ∀ z : ByteArray, (numsOf z).map UInt8.ofNat = z.data.toList := by
    intro z
    unfold numsOf
    rw [List.map_map]
    conv => rhs; rw [← List.map_id z.data.toList]
    congr 1
    funext b
    simp
  rw [h, h]
  simp
theorem key_str (a : ByteArray) (n : Nat) (t : List Nat) (ht : ∀ c ∈ t, c < 256) : a.extract 0 n ++ strOf t = strOf ((numsOf a).take n ++ t) := by
  rw [← str_app, nums_strOf ht, nums_extract, List.drop_zero, Nat.sub_zero]
theorem boxzE (w1 : World) {W w2 : World} {g : Nat} (hg : W.grownBy w2 (some g)) (hgl : g < w1.heap.size) (hz : W.heap[w1.heap.size]? = some (.cells zE 29 (0, 0))) :
    Hid (w2.heap[w1.heap.size]? = some (.cells zE 29 (0, 0))) ∧ (w2.cell? ⟨w1.heap.size, 0, none⟩ = some (.string ⟨#[]⟩) ∧ w2.cell? ⟨w1.heap.size, 1, none⟩ = some (.string ⟨#[]⟩) ∧ w2.cell? ⟨w1.heap.size, 2, none⟩ = some (.int .i64 0) ∧ w2.cell? ⟨w1.heap.size, 3, none⟩ = some (.bool false)) ∧ w2.frozen? ⟨w1.heap.size, 0, none⟩ = false ∧ w2.frozen? ⟨w1.heap.size, 1, none⟩ = false ∧ w2.frozen? ⟨w1.heap.size, 2, none⟩ = false ∧ w2.frozen? ⟨w1.heap.size, 3, none⟩ = false := by
  have h := (hg.block _ (lt_heap hz) (fun e => by have := Option.some.inj e; omega)).trans hz
  exact ⟨h, four h⟩
theorem ent_gone {a key : ByteArray} {xs x0 t1 x1 x3 x4 : List Nat} {l0 l1 l3 l4 lk : Bool} {n0 n3 n4 S : Nat} (e0 : numW a.size ⟨xs, false⟩ = (n0, ⟨x0, l0⟩)) (e1 : textW (256 - n0) ⟨x0, l0⟩ = (t1, ⟨x1, l1⟩)) (hk : strOf ((numsOf a).take n0 ++ t1) = key) (hS : sharedN (numsOf a) (numsOf key) = S) (hl : (l1 || decide (n0 ≠ S)) = lk) (e3 : numW 2147483647 ⟨x1, lk⟩ = (n3, ⟨x3, l3⟩)) (e4 : numW 1 ⟨x3, l3⟩ = (n4, ⟨x4, l4⟩)) :
    (n4 = 1 → entW a ⟨xs, false⟩ = (⟨key, ByteArray.empty, (n3 : Int), true⟩, ⟨x4, l4⟩)) ∧ (n4 ≠ 1 → ∀ t5 x5 l5, textW 4096 ⟨x4, l4⟩ = (t5, ⟨x5, l5⟩) → entW a ⟨xs, false⟩ = (⟨key, strOf t5, (n3 : Int), false⟩, ⟨x5, l5⟩)) := by
  have hK : keyW a ⟨xs, false⟩ = (key, ⟨x1, lk⟩) := by
    unfold keyW
    simp only [e0, e1, hk, hS, hl]
  refine ⟨fun h => ?_, fun h t5 x5 l5 e5 => ?_⟩
  · unfold entW tailW
    simp only [hK, e3, e4, if_pos h]
  · unfold entW tailW
    simp only [hK, e3, e4, if_neg h, e5]
set_option maxRecDepth 8000 in
set_option maxHeartbeats 1000000 in
theorem entry_any (g : Nat) (xs : List Nat) (a : ByteArray) (p : Option Addr) (c : Nat) (w : World) (h : Wkd B w g xs false p c) (hx : xs.length ≤ 1000000) (ha : a.size ≤ 256) (y : EntV) (xs' : List Nat) (lost' : Bool) (hR : entW a ⟨xs, false⟩ = (y, ⟨xs', lost'⟩)) :
    Calls Try.prog 103 #[.pointer (some ⟨g, 0, none⟩), .string a] w fun e w' => e = .returned (entV y) ∧ (∃ p' c', Wkd B w' g xs' lost' p' c') ∧ w.grownBy w' (some g) := by
  obtain ⟨n0, s0, e0⟩ : ∃ n s', numW a.size ⟨xs, false⟩ = (n, s') := ⟨_, _, rfl⟩
  obtain ⟨x0, l0⟩ := s0
  obtain ⟨t1, s1, e1⟩ : ∃ t s', textW (256 - n0) ⟨x0, l0⟩ = (t, s') := ⟨_, _, rfl⟩
  obtain ⟨x1, l1⟩ := s1
  have hn0 : n0 ≤ a.size := by have := numW_le a.size ⟨xs, false⟩; rw [e0] at this; exact this
  have hx0 : x0.length ≤ 1000000 := by have := numW_short a.size ⟨xs, false⟩; rw [e0] at this; exact Nat.le_trans this hx
  obtain ⟨key, hkey⟩ : ∃ key, strOf ((numsOf a).take n0 ++ t1) = key := ⟨_, rfl⟩
  have ht1 : ∀ c ∈ t1, c < 256 := by
    intro c hc
    have h1 := (textW_sub (256 - n0) ⟨x0, l0⟩).2 c (by rw [e1]; exact hc)
    have h2 := numW_sub a.size ⟨xs, false⟩ c (by rw [e0]; exact h1)
    exact h.bin.2 c h2
  have HKS : Hid (a.extract 0 n0 ++ strOf t1 = key) := (key_str a n0 t1 ht1).trans hkey
  have hgl := lt_heap h.box
  have h0 := h.below (below_alloc w (.cells zE 29))
  have HNA := number_any g a.size xs false p c _ h0 hx (by omega) n0 x0 l0 e0
  have HRZ : Hid ((w.alloc (.cells zE 29)).heap[w.heap.size]? = some (.cells zE 29 (0, 0))) := heap_alloc_new w _
  have HGL : Hid (g < w.heap.size) := hgl
  have q1 : (n0 : Int) ≤ (a.size : Int) := by omega
  have q2 : (a.size : Int) ≤ 256 := by omega
  have q3 : (0 : Int) ≤ (n0 : Int) := by omega
  have q4 : IntKind.i64.wrap (256 - (n0 : Int)) = ((256 - n0 : Nat) : Int) := by rw [IntKind.wrap_i64]; omega
  have HX0 : Hid (x0.length ≤ 1000000 ∧ textW (256 - n0) ⟨x0, l0⟩ = (t1, ⟨x1, l1⟩)) := ⟨hx0, e1⟩
  have ht2 : t1.length ≤ 256 := by have := textW_le (256 - n0) ⟨x0, l0⟩; rw [e1] at this; exact Nat.le_trans this (by omega)
  have hcat : ∀ w', (Op.stringOp .add (a.extract 0 n0) (strOf t1)).run Try.prog w' = .ok (.string key) w' := by
    intro w'
    rw [run_string_add_sum w' _ _ (by rw [ByteArray.size_extract, strOf_size]; omega), HKS.out]
  have hcb : (a.extract 0 n0).size + (strOf t1).size ≤ 9223372036854775807 := by rw [ByteArray.size_extract, strOf_size]; omega
  clear h h0 hgl hx0 ht2
  unfold zE at HNA
  go_enter Try.func103, Try.ntmps103
  go_wp2_with fail
  refine HNA.mono ?_
  rintro e w1 ⟨rfl, hw1, hg1⟩
  have HW1 : Hid (∃ p' c', Wkd B w1 g x0 l0 p' c') := hw1
  have HG1 : Hid (w.grownBy w1 (some g)) := grown_trans (grown_below (below_alloc _ _) _) hg1
  have HR1 : Hid (w1.heap[w.heap.size]? = some (.cells zE 29 (0, 0))) := (hg1.block _ (by simp) (fun e => by have := Option.some.inj e; have := HGL.out; omega)).trans HRZ.out
  have HTX : Hid (∀ w', Below w1.heap.size w1 w' → Calls Try.prog 104 #[.pointer (some ⟨g, 0, none⟩), .int .i64 ((256 - n0 : Nat) : Int)] w' fun e w2 => (∃ p1 c1, e = .returned (.slice p1 t1.length c1) ∧ BIn w2 p1 t1) ∧ (∃ p' c', Wkd B w2 g x1 l1 p' c') ∧ w'.grownBy w2 (some g)) := by
    intro w' hb'
    obtain ⟨p', c', hh⟩ := HW1.out
    exact text_w g (256 - n0) x0 l0 p' c' w' (hh.below hb') HX0.out.1 (by omega) t1 x1 l1 HX0.out.2
  clear hw1 hg1 HNA
  have hnew : ∀ o, (w1.alloc o).drew.heap[w1.heap.size]? = some o := fun o => heap_alloc_new w1 o
  have HGL1 : Hid (g < w1.heap.size) := Nat.lt_of_lt_of_le HGL.out HG1.out.size
  go_upto_region 2 with fail
  go_cut [6] from 11 (fun j wx => ∃ h, j = .pointer (some ⟨h, 0, none⟩) ∧ Es B w wx g x1 l1 h key ByteArray.empty 0 false)
  case first =>
    go_region_with (go_at_call 104; refine (HTX.out _ ?_).mono ?_; (first | exact (Below.refl _ _).drew | exact ((Below.refl _ _).drew).alloc (by simp) _); rintro e w2 ⟨⟨p1, c1, rfl, hb2⟩, hw2, hg2⟩; have hcv := conv_bytes hb2 rfl c1; have hcw := conv_bytes (hb2.alloc (.cells #[.string ⟨#[]⟩, .string ⟨#[]⟩, .int .i64 0, .bool false] 29)) rfl c1; have hz := boxzE w1 hg2 HGL1.out; try (simp only [hnew] at hz; obtain ⟨HZ, ⟨z0, z1, z2, z3⟩, y0, y1, y2, y3⟩ := hz rfl))
    · go_wp2
      go_meet
      case rel => exact ⟨_, rfl, es_new1 HG1.out HR1.out HGL.out hg2 hw2 key⟩
    · go_wp2
      go_meet
      case rel => exact ⟨_, rfl, es_new1 HG1.out HR1.out HGL.out hg2 hw2 key⟩
    · go_wp2
      go_meet
      case rel => exact ⟨_, rfl, es_new2 HG1.out HR1.out HGL.out hg2 hw2 HZ.out key⟩
  case rest =>
    obtain ⟨h, rfl, hes⟩ := hcut
    have HES : Hid (Es B w wc g x1 l1 h key ByteArray.empty 0 false) := hes
    obtain ⟨⟨k0, _, _, _⟩, _⟩ := four hes.box
    obtain ⟨S, hS⟩ : ∃ S, sharedN (numsOf a) (numsOf key) = S := ⟨_, rfl⟩
    have HSH := fun w' => shared_any a key w' (by omega) S hS
    obtain ⟨lk, hlk⟩ : ∃ lk, (l1 || decide (n0 ≠ S)) = lk := ⟨_, rfl⟩
    obtain ⟨n3, s3, e3⟩ : ∃ n s', numW 2147483647 ⟨x1, lk⟩ = (n, s') := ⟨_, _, rfl⟩
    obtain ⟨x3, l3⟩ := s3
    obtain ⟨n4, s4, e4⟩ : ∃ n s', numW 1 ⟨x3, l3⟩ = (n, s') := ⟨_, _, rfl⟩
    obtain ⟨x4, l4⟩ := s4
    obtain ⟨t5, s5, e5⟩ : ∃ n s', textW 4096 ⟨x4, l4⟩ = (n, s') := ⟨_, _, rfl⟩
    obtain ⟨x5, l5⟩ := s5
    have HL1 : Hid (x1.length ≤ 1000000 ∧ x3.length ≤ 1000000 ∧ x4.length ≤ 1000000) := by
      have b1 := textW_short (256 - n0) ⟨x0, l0⟩
      have b2 := numW_short 2147483647 ⟨x1, lk⟩
      have b3 := numW_short 1 ⟨x3, l3⟩
      rw [e1] at b1
      rw [e3] at b2
      rw [e4] at b3
      have b0 := HX0.out.1
      simp only at b1 b2 b3
      exact ⟨by omega, by omega, by omega⟩
    have HEG := ent_gone e0 e1 hkey hS hlk e3 e4
    rw [hR] at HEG
    have HE1 : Hid (n4 = 1 → (y, (⟨xs', lost'⟩ : Wk)) = (⟨key, ByteArray.empty, (n3 : Int), true⟩, ⟨x4, l4⟩)) := HEG.1
    have HE2 : Hid (n4 ≠ 1 → (y, (⟨xs', lost'⟩ : Wk)) = (⟨key, strOf t5, (n3 : Int), false⟩, ⟨x5, l5⟩)) := fun h => HEG.2 h t5 x5 l5 e5
    have HQ3 : Hid (numW 2147483647 ⟨x1, lk⟩ = (n3, ⟨x3, l3⟩)) := e3
    have HQ4 : Hid (numW 1 ⟨x3, l3⟩ = (n4, ⟨x4, l4⟩)) := e4
    have HQ5 : Hid (textW 4096 ⟨x4, l4⟩ = (t5, ⟨x5, l5⟩)) := e5
    have HLK : Hid ((l1 || decide (n0 ≠ S)) = lk) := hlk
    clear hnew HTX hcat hes HW1 HG1 HR1 HRZ e0 e1 e3 e4 e5 hkey hlk hR HEG hcb hS ht1 HX0 hx ha hn0
    go_wp2_with fail
    refine (HSH _).mono ?_
    rintro e w3 ⟨rfl, hb3⟩
    have hes3 := HES.out.call hb3
    have H3 : Hid (Es B w w3 g x1 l1 h key ByteArray.empty 0 false) := hes3
    clear hb3 hes3
    by_cases hns : n0 = S
    · have g1 : ((n0 : Int) != (S : Int)) = false := by simp [hns]
      have HK : Hid (l1 = lk) := by have := HLK.out; simp [hns] at this; exact this
      have H4 : Hid (Es B w w3 g x1 lk h key ByteArray.empty 0 false) := by rw [← HK.out]; exact H3.out
      clear hns
      obtain ⟨pw, cw, hw4⟩ := H4.out.wk
      have HN3 := number_any g 2147483647 x1 lk pw cw _ hw4 HL1.out.1 (by omega) n3 x3 l3 HQ3.out
      clear hw4 HSH k0
      go_wp2_with fail
      refine HN3.mono ?_
      rintro e w5 ⟨rfl, hw5, hg5⟩
      have hes5 := H4.out.walk hw5 hg5
      obtain ⟨⟨k0, k1, k2, k3⟩, f0, f1, f2, f3⟩ := four hes5.box
      have hes6 := hes5.setS (n3 : Int)
      have H6 : Hid (Es B w (w5.setCell ⟨h, 2, none⟩ (.int .i64 (n3 : Int))) g x3 l3 h key ByteArray.empty (n3 : Int) false) := hes6
      obtain ⟨pv, cv, hw6⟩ := hes6.wk
      have HN4 := number_any g 1 x3 l3 pv cv _ hw6 HL1.out.2.1 (by omega) n4 x4 l4 HQ4.out
      clear hes5 hes6 hw6 hw5 hg5 HN3
      go_wp2_with fail
      refine HN4.mono ?_
      rintro e w7 ⟨rfl, hw7, hg7⟩
      have hes7 := H6.out.walk hw7 hg7
      clear k0 k1 k2 k3 f0 f1 f2 f3
      obtain ⟨⟨k0, k1, k2, k3⟩, f0, f1, f2, f3⟩ := four hes7.box
      clear HN4 hw7 hg7
      by_cases h1 : n4 = 1
      · have g2 : ((n4 : Int) == 1) = true := by simp [h1]
        have HY := HE1.out h1
        simp only [Prod.mk.injEq, Wk.mk.injEq] at HY
        obtain ⟨rfl, rfl, rfl⟩ := HY
        have H8 : Hid (Es B w (w7.setCell ⟨h, 3, none⟩ (.bool true)) g xs' lost' h key ByteArray.empty (n3 : Int) true) := hes7.setG true
        clear hes7 h1
        have hr9 := H8.out.res
        obtain ⟨⟨r0, r1, r2, r3⟩, y0, y1, y2, y3⟩ := four hr9
        obtain ⟨⟨b0, b1, b2, b3⟩, _⟩ := four H8.out.box
        clear hr9
        go_wp2
        (try simp only [Exit.inBlock, Exit.then])
        refine bodyPost_ret (v := entV ⟨key, ByteArray.empty, (n3 : Int), true⟩) ?_ rfl ⟨rfl, H8.out.fin _ _ _ _⟩
        rw [results_cell1 rfl]
        go_simp
        rfl
      · have g2 : ((n4 : Int) == 1) = false := by simp; omega
        have HY := HE2.out h1
        simp only [Prod.mk.injEq, Wk.mk.injEq] at HY
        obtain ⟨rfl, rfl, rfl⟩ := HY
        have hes8 := hes7.setG false
        have HG8 : Hid (Es B w (w7.setCell ⟨h, 3, none⟩ (.bool false)) g x4 l4 h key ByteArray.empty (n3 : Int) false) := hes8
        obtain ⟨pu, cu, hw8⟩ := hes8.wk
        have HT5 := text_w g 4096 x4 l4 pu cu _ hw8 HL1.out.2.2 (by omega) t5 xs' lost' HQ5.out
        clear hes7 hes8 hw8 h1
        go_wp2_with fail
        refine HT5.mono ?_
        rintro e w9 ⟨⟨p9, c9, rfl, hb9⟩, hw9, hg9⟩
        have hes9 := HG8.out.walk hw9 hg9
        have hcv := conv_bytes hb9 rfl c9
        clear k0 k1 k2 k3 f0 f1 f2 f3
        obtain ⟨⟨k0, k1, k2, k3⟩, f0, f1, f2, f3⟩ := four hes9.box
        have H8 : Hid (Es B w (w9.setCell ⟨h, 1, none⟩ (.string (strOf t5))) g xs' lost' h key (strOf t5) (n3 : Int) false) := hes9.setV (strOf t5)
        clear hes9 hw9 hg9 hb9 HT5
        have hr9 := H8.out.res
        obtain ⟨⟨r0, r1, r2, r3⟩, y0, y1, y2, y3⟩ := four hr9
        obtain ⟨⟨b0, b1, b2, b3⟩, _⟩ := four H8.out.box
        clear hr9
        go_wp2
        (try simp only [Exit.inBlock, Exit.then])
        refine bodyPost_ret (v := entV ⟨key, strOf t5, (n3 : Int), false⟩) ?_ rfl ⟨rfl, H8.out.fin _ _ _ _⟩
        rw [results_cell1 rfl]
        go_simp
        rfl
    · have g1 : ((n0 : Int) != (S : Int)) = true := by simp; omega
      have HK : Hid (lk = true) := by have := HLK.out; simp [hns] at this; exact this
      obtain ⟨pz, cz, hz⟩ := H3.out.wk
      obtain ⟨⟨a0, a1⟩, z0, z1⟩ := two2 hz.box
      have H4 : Hid (Es B w (w3.setCell ⟨g, 1, none⟩ (.bool true)) g x1 lk h key ByteArray.empty 0 false) := by rw [HK.out]; exact H3.out.lose
      clear hns hz
      obtain ⟨pw, cw, hw4⟩ := H4.out.wk
      have HN3 := number_any g 2147483647 x1 lk pw cw _ hw4 HL1.out.1 (by omega) n3 x3 l3 HQ3.out
      clear hw4 HSH k0
      go_wp2_with fail
      refine HN3.mono ?_
      rintro e w5 ⟨rfl, hw5, hg5⟩
      have hes5 := H4.out.walk hw5 hg5
      obtain ⟨⟨k0, k1, k2, k3⟩, f0, f1, f2, f3⟩ := four hes5.box
      have hes6 := hes5.setS (n3 : Int)
      have H6 : Hid (Es B w (w5.setCell ⟨h, 2, none⟩ (.int .i64 (n3 : Int))) g x3 l3 h key ByteArray.empty (n3 : Int) false) := hes6
      obtain ⟨pv, cv, hw6⟩ := hes6.wk
      have HN4 := number_any g 1 x3 l3 pv cv _ hw6 HL1.out.2.1 (by omega) n4 x4 l4 HQ4.out
      clear hes5 hes6 hw6 hw5 hg5 HN3
      go_wp2_with fail
      refine HN4.mono ?_
      rintro e w7 ⟨rfl, hw7, hg7⟩
      have hes7 := H6.out.walk hw7 hg7
      clear k0 k1 k2 k3 f0 f1 f2 f3
      obtain ⟨⟨k0, k1, k2, k3⟩, f0, f1, f2, f3⟩ := four hes7.box
      clear HN4 hw7 hg7
      by_cases h1 : n4 = 1
      · have g2 : ((n4 : Int) == 1) = true := by simp [h1]
        have HY := HE1.out h1
        simp only [Prod.mk.injEq, Wk.mk.injEq] at HY
        obtain ⟨rfl, rfl, rfl⟩ := HY
        have H8 : Hid (Es B w (w7.setCell ⟨h, 3, none⟩ (.bool true)) g xs' lost' h key ByteArray.empty (n3 : Int) true) := hes7.setG true
        clear hes7 h1
        have hr9 := H8.out.res
        obtain ⟨⟨r0, r1, r2, r3⟩, y0, y1, y2, y3⟩ := four hr9
        obtain ⟨⟨b0, b1, b2, b3⟩, _⟩ := four H8.out.box
        clear hr9
        go_wp2
        (try simp only [Exit.inBlock, Exit.then])
        refine bodyPost_ret (v := entV ⟨key, ByteArray.empty, (n3 : Int), true⟩) ?_ rfl ⟨rfl, H8.out.fin _ _ _ _⟩
        rw [results_cell1 rfl]
        go_simp
        rfl
      · have g2 : ((n4 : Int) == 1) = false := by simp; omega
        have HY := HE2.out h1
        simp only [Prod.mk.injEq, Wk.mk.injEq] at HY
        obtain ⟨rfl, rfl, rfl⟩ := HY
        have hes8 := hes7.setG false
        have HG8 : Hid (Es B w (w7.setCell ⟨h, 3, none⟩ (.bool false)) g x4 l4 h key ByteArray.empty (n3 : Int) false) := hes8
        obtain ⟨pu, cu, hw8⟩ := hes8.wk
        have HT5 := text_w g 4096 x4 l4 pu cu _ hw8 HL1.out.2.2 (by omega) t5 xs' lost' HQ5.out
        clear hes7 hes8 hw8 h1
        go_wp2_with fail
        refine HT5.mono ?_
        rintro e w9 ⟨⟨p9, c9, rfl, hb9⟩, hw9, hg9⟩
        have hes9 := HG8.out.walk hw9 hg9
        have hcv := conv_bytes hb9 rfl c9
        clear k0 k1 k2 k3 f0 f1 f2 f3
        obtain ⟨⟨k0, k1, k2, k3⟩, f0, f1, f2, f3⟩ := four hes9.box
        have H8 : Hid (Es B w (w9.setCell ⟨h, 1, none⟩ (.string (strOf t5))) g xs' lost' h key (strOf t5) (n3 : Int) false) := hes9.setV (strOf t5)
        clear hes9 hw9 hg9 hb9 HT5
        have hr9 := H8.out.res
        obtain ⟨⟨r0, r1, r2, r3⟩, y0, y1, y2, y3⟩ := four hr9
        obtain ⟨⟨b0, b1, b2, b3⟩, _⟩ := four H8.out.box
        clear hr9
        go_wp2
        (try simp only [Exit.inBlock, Exit.then])
        refine bodyPost_ret (v := entV ⟨key, strOf t5, (n3 : Int), false⟩) ?_ rfl ⟨rfl, H8.out.fin _ _ _ _⟩
        rw [results_cell1 rfl]
        go_simp
        rfl
end Go.Proofs.Ytlcbjmbphekliaa
namespace Go.Proofs.Ytlcbjmbphekliaa
open Go.RowKit Go.WideShapes

def cellsE (l : List EntV) : List Value := l.flatMap fun p => [.string p.key, .string p.val, .int .i64 p.seq, .bool p.gone]
theorem cellsE_len (l : List EntV) : (cellsE l).length = l.length * 4 := by
  induction l with
  | nil => rfl
  | cons p l ih => simp only [cellsE, List.flatMap_cons, List.length_append, List.length_cons, List.length_nil] at *; omega
theorem cellsE_app (l m : List EntV) : cellsE (l ++ m) = cellsE l ++ cellsE m := by simp [cellsE]
theorem cellsE_at : ∀ (l : List EntV) (i : Nat), i < l.length → (cellsE l)[i * 4]? = some (.string (l.getD i zeroE).key) ∧ (cellsE l)[i * 4 + 1]? = some (.string (l.getD i zeroE).val) ∧ (cellsE l)[i * 4 + 2]? = some (.int .i64 (l.getD i zeroE).seq) ∧ (cellsE l)[i * 4 + 3]? = some (.bool (l.getD i zeroE).gone)
  | p :: l, 0, _ => ⟨rfl, rfl, rfl, rfl⟩
  | p :: l, i + 1, hi => by
    have := cellsE_at l i (by simpa using hi)
    rw [show (i + 1) * 4 = i * 4 + 1 + 1 + 1 + 1 from by omega]
    simpa [cellsE, List.getD] using this
  | [], _, h => by simp at h
def EOwn (w : World) (base : Nat) (v : Value) (l : List EntV) : Prop := w.ownsRow base 29 4 v l.length (cellsE l)
theorem eown_nil (w : World) (base : Nat) : EOwn w base (.slice none 0 0) [] := World.ownsRow_nil _ _ _ _
theorem EOwn.form {w : World} {base : Nat} {v : Value} {l : List EntV} (h : EOwn w base v l) : ∃ q m, v = .slice q l.length m ∧ l.length ≤ m ∧ m ≤ maxLen ∧ (q = none → m = 0) := own_form h
theorem EOwn.ents {w : World} {base : Nat} {q : Option Addr} {n m : Nat} {l : List EntV} (h : EOwn w base (.slice q n m) l) : EntsIn w q l := by
  intro hp
  rcases h.2 with ⟨_, hn⟩ | ⟨g, cap, cur, hv, hb, hg, hle, hmax, hsz, htk⟩
  · omega
  · simp only [Value.slice.injEq] at hv
    obtain ⟨rfl, rfl, rfl⟩ := hv
    refine ⟨g, 0, rfl, fun i hi => ?_⟩
    obtain ⟨c0, c1, c2, c3⟩ := cellsE_at l i hi
    exact ⟨by rw [Nat.zero_add, World.ownsRow.cellAt h _ (by omega), c0], by rw [Nat.zero_add, World.ownsRow.cellAt h _ (by omega), c1], by rw [Nat.zero_add, World.ownsRow.cellAt h _ (by omega), c2], by rw [Nat.zero_add, World.ownsRow.cellAt h _ (by omega), c3]⟩
theorem EOwn.below {w w' : World} {base : Nat} {v : Value} {l : List EntV} (h : EOwn w base v l) (hb : Below w.heap.size w w') : EOwn w' base v l := own_below h hb
theorem own_neS {w : World} {base n s : Nat} {e : TypeId} {v : Value} {xs : List Value} (h : w.ownsRow base e s v n xs) {B : Nat} {C : Array Value} {t : TypeId} {fr : Nat × Nat} (hB : w.heap[B]? = some (.cells C t fr)) (ht : t ≠ e) : v.ownBlock ≠ some B := by
  intro e
  rcases h.2 with ⟨hv, _⟩ | ⟨g, cap, cur, hv, _, hgg, _⟩
  · rw [hv] at e; cases e
  · rw [hv] at e
    simp only [Value.ownBlock, Option.some.injEq] at e
    subst e
    rw [hB] at hgg
    simp only [Option.some.injEq, Obj.cells.injEq] at hgg
    exact ht hgg.2.1
theorem info_entry : (Try.prog.info? 29).map (fun i => (i.zero, i.size, i.bytes)) = some (some (.agg #[.string ByteArray.empty, .string ByteArray.empty, .int .i64 0, .bool false]), 4, 48) := by kernel_rfl
theorem info_parts' {P : Program} {t : TypeId} {z : Option Value} {s b : Nat} (h : (P.info? t).map (fun i => (i.zero, i.size, i.bytes)) = some (z, s, b)) : ∃ i, P.info? t = some i ∧ i.zero = z ∧ i.size = s ∧ i.bytes = b := by
  cases hi : P.info? t with
  | none => rw [hi] at h; cases h
  | some i => rw [hi] at h; simp at h; exact ⟨i, rfl, h.1, h.2.1, h.2.2⟩
theorem ent_cells (w : World) (a b c d : Value) (t : TypeId) : ∀ j u, [a, b, c, d][j]? = some u → (w.alloc (.cells #[a, b, c, d] t)).cell? ((⟨w.heap.size, 0, none⟩ : Addr).add j) = some u := by
  intro j u hj
  have hh := heap_alloc_new w (.cells #[a, b, c, d] t)
  have e : (⟨w.heap.size, 0, none⟩ : Addr).add j = ⟨w.heap.size, j, none⟩ := by simp [Addr.add]; intro h; omega
  rw [e, Lib.cell_of_heap hh]
  simpa using hj
theorem ent_one (k v : ByteArray) (i : Int) (g : Bool) : ∀ u ∈ [Value.string k, .string v, .int .i64 i, .bool g], u.oneCell' = true := by
  intro u hu
  simp only [List.mem_cons, List.not_mem_nil, or_false] at hu
  rcases hu with rfl | rfl | rfl | rfl <;> rfl
structure OnE (w : World) (R : Option (List EntV × Wk)) (k : Nat) (a : ByteArray) (xs : List Nat) (lost : Bool) (v : Value) (l : List EntV) (wr : World) : Prop where
  own : EOwn wr w.heap.size v l
  bel : Below w.heap.size w wr
  wk : ∃ p c, Wkd w.heap.size wr w.heap.size xs lost p c
  cut : R = (cutL k a ⟨xs, lost⟩).map fun p => (l ++ p.1, p.2)
  key : a.size ≤ 256
  len : xs.length ≤ 1000000
theorem OnE.stop {w : World} {R : Option (List EntV × Wk)} {k : Nat} {a : ByteArray} {xs xs' : List Nat} {lost : Bool} {v : Value} {l : List EntV} {wr : World} {y : EntV} (h : OnE w R (k + 1) a xs lost v l wr) (hy : entW a ⟨xs, lost⟩ = (y, ⟨xs', true⟩)) : R = none := by
  rw [h.cut]
  unfold cutL
  rw [hy]
  simp
theorem entW_short (a : ByteArray) (s : Wk) : (entW a s).2.rest.length ≤ s.rest.length := by
  unfold entW
  simp only
  have h0 := numW_short a.size s
  have h1 := textW_short (256 - (numW a.size s).1) (numW a.size s).2
  have hk : (keyW a s).2.rest.length ≤ s.rest.length := by unfold keyW; exact Nat.le_trans h1 h0
  have h3 := numW_short 2147483647 (keyW a s).2
  have h4 := numW_short 1 (numW 2147483647 (keyW a s).2).2
  have h5 := textW_short 4096 (numW 1 (numW 2147483647 (keyW a s).2).2).2
  unfold tailW
  simp only
  split
  · simp only; omega
  · simp only; omega
theorem OnE.next {w : World} {R : Option (List EntV × Wk)} {k : Nat} {a : ByteArray} {xs xs' : List Nat} {lost : Bool} {v v' : Value} {l : List EntV} {wr w' : World} {y : EntV} (h : OnE w R (k + 1) a xs lost v l wr) (hy : entW a ⟨xs, lost⟩ = (y, ⟨xs', false⟩)) (ho : EOwn w' w.heap.size v' (l ++ [y])) (hb : Below w.heap.size w w') (hw : ∃ p c, Wkd w.heap.size w' w.heap.size xs' false p c) : OnE w R k y.key xs' false v' (l ++ [y]) w' := by
  refine ⟨ho, hb, hw, ?_, ?_, ?_⟩
  · rw [h.cut]
    conv => lhs; unfold cutL
    rw [hy]
    simp only [Bool.false_eq_true, if_false, Option.map_map]
    congr 1
    funext p
    simp
  · have := keyW_le a ⟨xs, lost⟩ h.key
    have e : y.key = (keyW a ⟨xs, lost⟩).1 := by
      have := congrArg (fun p => p.1.key) hy
      exact this.symm
    rw [e]; exact this
  · have := entW_short a ⟨xs, lost⟩
    rw [hy] at this
    exact Nat.le_trans this h.len
def endE : Option (List EntV × Wk) → Option (List EntV)
  | none => none
  | some (l, s) => if s.lost = false ∧ s.rest = [] then some l else none
theorem cutE_end (xs : List Nat) : cutE xs = endE (cutL (numW 4096 ⟨xs, false⟩).1 ByteArray.empty (numW 4096 ⟨xs, false⟩).2) := by
  unfold cutE endE
  rfl
def CutOut (xs : List Nat) (base : Nat) (e : Ending) (w' : World) : Prop :=
  (∃ l v, cutE xs = some l ∧ e = .returned (.tuple #[v, .bool true]) ∧ EOwn w' base v l) ∨ (∃ q n c, cutE xs = none ∧ e = .returned (.tuple #[.slice q n c, .bool false]))
set_option maxRecDepth 8000 in
set_option maxHeartbeats 1000000 in
theorem cutEntries_any (p : Option Addr) (n c : Nat) (xs : List Nat) (w : World) (hn : n = xs.length) (hb : BIn w p xs) (hc : n ≤ c ∧ c ≤ maxLen ∧ (p = none → c = 0)) (hx : xs.length ≤ 1000000) :
    Calls Try.prog 98 #[.slice p n c] w fun e w' => CutOut xs w.heap.size e w' ∧ Below w.heap.size w w' := by
  subst hn
  obtain ⟨m, s1, e1⟩ : ∃ m s, numW 4096 ⟨xs, false⟩ = (m, s) := ⟨_, _, rfl⟩
  obtain ⟨x1, l1⟩ := s1
  have hm : m ≤ 4096 := by have := numW_le 4096 ⟨xs, false⟩; rw [e1] at this; exact this
  have hx1 : x1.length ≤ 1000000 := by have := numW_short 4096 ⟨xs, false⟩; rw [e1] at this; exact Nat.le_trans this hx
  have hl1 : l1 = true → m = 0 := by
    intro hl
    unfold numW at e1
    split at e1
    · split at e1
      · simp only [Prod.mk.injEq, Wk.mk.injEq] at e1; rw [hl] at e1; exact absurd e1.2.2 (by simp)
      · simp only [Prod.mk.injEq] at e1; exact e1.1.symm
    · simp only [Prod.mk.injEq] at e1; exact e1.1.symm
  obtain ⟨R, hR⟩ : ∃ R, cutL m ByteArray.empty ⟨x1, l1⟩ = R := ⟨_, rfl⟩
  have HCE : Hid (cutE xs = endE R) := by show _ = _; rw [cutE_end, e1]; simp only; rw [hR]
  have hw0 : Wkd w.heap.size (w.alloc (.cells #[.slice p xs.length c, .bool false] 139)) w.heap.size xs false p c := ⟨heap_alloc_new _ _, hb.alloc _, hc, fun hp a ha => by obtain ⟨b, o, e, hcc⟩ := hb.1 hp; rw [ha] at e; rw [Option.some.inj e]; exact World.block_lt_of_cell? _ _ (hcc 0 hp)⟩
  have HNA := number_any w.heap.size 4096 xs false p c _ hw0 hx (by omega) m x1 l1 e1
  have HM : Hid (m ≤ 4096 ∧ (l1 = true → m = 0) ∧ x1.length ≤ 1000000) := ⟨hm, hl1, hx1⟩
  have HR : Hid (cutL m ByteArray.empty ⟨x1, l1⟩ = R) := hR
  obtain ⟨i0, hi, hz0, hz1, hz2⟩ := info_parts' info_entry
  have hmI : (m : Int) ≤ 4096 := by omega
  clear hb hc hx e1 hm hx1 hl1 hR hw0
  go_enter Try.func98, Try.ntmps98
  go_wp2_with fail
  refine HNA.mono ?_
  rintro e w1 ⟨rfl, hw1, hg1⟩
  have HON : Hid (OnE w R m ByteArray.empty x1 l1 (.slice none 0 0) [] w1) := ⟨eown_nil _ _, (below_alloc w _).grown hg1 (by simp) (fun k hk => by have := Option.some.inj hk; omega), hw1, by rw [← HR.out]; simp, by decide, HM.out.2.2⟩
  clear hw1 hg1 HNA
  go_wp2
  go_loopw [5, 6, 11] (fun v a i wr => ∃ k s xk lk l, k ≤ m ∧ i = .int .i64 ((k : Nat) : Int) ∧ a = .string s ∧ (lk = true → m = 0) ∧ l.length = k ∧ OnE w R (m - k) s xk lk v l wr) (fun _ _ i _ => m - (intOf i).toNat)
  case atStart => exact ⟨0, ByteArray.empty, x1, l1, [], by omega, rfl, rfl, HM.out.2.1, rfl, HON.out⟩
  case round =>
    obtain ⟨k, s, xk, lk, l, hk, rfl, rfl, hlk, hll, hon⟩ := hrel
    obtain ⟨q, cq, rfl, _, _, _⟩ := hon.own.form
    have HO : Hid (OnE w R (m - k) s xk lk (.slice q l.length cq) l wr) := hon
    have HLL : Hid (l.length = k ∧ k ≤ 4096) := ⟨hll, by have := HM.out.1; omega⟩
    clear hll
    by_cases hkm : k < m
    · have hlkf : lk = false := by cases lk with | false => rfl | true => exact absurd (hlk rfl) (by omega)
      subst hlkf
      obtain ⟨y, s', ey⟩ : ∃ y s', entW s ⟨xk, false⟩ = (y, s') := ⟨_, _, rfl⟩
      obtain ⟨x', l'⟩ := s'
      obtain ⟨pk, ck, hwk⟩ := hon.wk
      have HEN := entry_any w.heap.size xk s pk ck wr hwk hon.len hon.key y x' l' ey
      obtain ⟨ky, vy, sy, gy⟩ := y
      rw [entV_def] at HEN
      have HEY : Hid (entW s ⟨xk, false⟩ = (⟨ky, vy, sy, gy⟩, ⟨x', l'⟩)) := ey
      have hkI : (k : Int) < (m : Int) := by omega
      have HMK : Hid (m - k = m - (k + 1) + 1) := by show _ = _; omega
      clear hwk ey hon hlk
      go_wp2_with fail
      refine HEN.mono ?_
      rintro e w2 ⟨rfl, hw2, hg2⟩
      obtain ⟨pg, cg, hwg⟩ := hw2
      have hb2 : Below w.heap.size w w2 := HO.out.bel.grown hg2 HO.out.bel.size (fun k hk => by have := Option.some.inj hk; omega)
      have ho2 : EOwn w2 w.heap.size (.slice q l.length cq) l := by
        obtain ⟨p', c', hh⟩ := HO.out.wk
        exact World.ownsRow.kept HO.out.own hg2 (.inr (own_neS HO.out.own hh.box (by decide)))
      have HW2 : Hid (Wkd w.heap.size w2 w.heap.size x' l' pg cg ∧ Below w.heap.size w w2 ∧ EOwn w2 w.heap.size (.slice q l.length cq) l) := ⟨hwg, hb2, ho2⟩
      have hb3 := below_alloc w2 (.cells #[.string ky, .string vy, .int .i64 sy, .bool gy] 29)
      obtain ⟨⟨a0, a1⟩, _⟩ := two2 (hwg.below hb3).box
      cases l' with
      | true =>
        have HN : Hid (cutE xs = none) := by
          show _ = _
          have h1 := HO.out
          rw [HMK.out] at h1
          have h2 := h1.stop HEY.out
          rw [HCE.out, h2]; rfl
        clear hwg hb2 ho2 hb3 HEN hg2
        go_wp2
        go_ret2
        exact ⟨.inr ⟨none, 0, 0, HN.out, rfl⟩, below_bt HW2.out.2.1 (below_alloc _ _)⟩
      | false =>
        have HOW : Hid (EOwn ((w2.alloc (.cells #[.string ky, .string vy, .int .i64 sy, .bool gy] 29)).alloc (.cells #[.string ky, .string vy, .int .i64 sy, .bool gy] 29)) w.heap.size (.slice q l.length cq) l) := (ho2.below hb3).below (below_alloc _ _)
        have HBE : Hid (Below w.heap.size w ((w2.alloc (.cells #[.string ky, .string vy, .int .i64 sy, .bool gy] 29)).alloc (.cells #[.string ky, .string vy, .int .i64 sy, .bool gy] 29))) := below_bt (below_bt hb2 hb3) (below_alloc _ _)
        have HWE : Hid (Wkd w.heap.size ((w2.alloc (.cells #[.string ky, .string vy, .int .i64 sy, .bool gy] 29)).alloc (.cells #[.string ky, .string vy, .int .i64 sy, .bool gy] 29)) w.heap.size x' false pg cg) := (hwg.below hb3).below (below_alloc _ _)
        have HCL : Hid (∀ j u, [Value.string ky, .string vy, .int .i64 sy, .bool gy][j]? = some u → ((w2.alloc (.cells #[.string ky, .string vy, .int .i64 sy, .bool gy] 29)).alloc (.cells #[.string ky, .string vy, .int .i64 sy, .bool gy] 29)).cell? ((⟨w2.heap.size + 1, 0, none⟩ : Addr).add j) = some u) := by
          have h := ent_cells (w2.alloc (.cells #[.string ky, .string vy, .int .i64 sy, .bool gy] 29)) (.string ky) (.string vy) (.int .i64 sy) (.bool gy) 29
          rw [show (w2.alloc (.cells #[.string ky, .string vy, .int .i64 sy, .bool gy] 29)).heap.size = w2.heap.size + 1 by simp] at h
          exact h
        have HBX : Hid ((w2.alloc (.cells #[.string ky, .string vy, .int .i64 sy, .bool gy] 29)).heap[w2.heap.size]? = some (.cells #[.string ky, .string vy, .int .i64 sy, .bool gy] 29 (0, 0))) := heap_alloc_new _ _
        have HBA : Hid (∀ ua, ((w2.alloc (.cells #[.string ky, .string vy, .int .i64 sy, .bool gy] 29)).alloc (.cells #[.string ky, .string vy, .int .i64 sy, .bool gy] 29)).grownBy ua (Value.slice q l.length cq).ownBlock → ua.cell? ⟨w2.heap.size, 0, none⟩ = some (.string ky)) := by
          intro ua hga
          have h1 := block_below HBX.out (below_alloc _ (.cells #[.string ky, .string vy, .int .i64 sy, .bool gy] 29))
          exact (four ((hga.block _ (lt_heap h1) (fun e => by have := (World.ownsRow.lt HW2.out.2.2 _ e.symm).2; omega)).trans h1)).1.1
        clear hwg hb2 ho2 hb3 HEN hg2
        go_wp2_with (at_builtin; go_loud (refine wpList_append_own _ rfl _ _ 26 rfl w.heap.size 29 i0 _ 4 48 Try.underlying26 hi hz0 hz1 hz2 rfl (by omega) _ _ _ rfl HOW.out ⟨w2.heap.size + 1, 0, none⟩ 1 1 [.string ky, .string vy, .int .i64 sy, .bool gy] rfl rfl HCL.out (ent_one ky vy sy gy) (by have := HLL.out; unfold maxLen; omega) (by have := HLL.out; omega) HBE.out.size ?_); intro va ua hoa hga _; have d0 := HBA.out ua hga)
        have HNW : Hid (OnE w R (m - (k + 1)) ky x' false va (l ++ [⟨ky, vy, sy, gy⟩]) ua) := by
          have h1 := HO.out
          rw [HMK.out] at h1
          have hne : ∀ k, (Value.slice q l.length cq).ownBlock = some k → w.heap.size ≤ k ∧ k ≠ w.heap.size := fun k hk => ⟨(World.ownsRow.lt HOW.out k hk).1, fun e => own_neS HW2.out.2.2 HW2.out.1.box (by decide) (by rw [hk, e])⟩
          refine h1.next HEY.out ?_ (HBE.out.grown hga HBE.out.size (fun k hk => (World.ownsRow.lt HOW.out k hk).1)) ⟨pg, cg, HWE.out.own hga hne⟩
          unfold EOwn
          rw [cellsE_app, List.length_append]
          exact hoa
        clear hoa hga
        go_wp2
        go_roundw
        case rel => exact ⟨k + 1, ky, x', false, _, by omega, by go_num, rfl, by simp, by rw [List.length_append, HLL.out.1]; rfl, HNW.out⟩
        case measure => simp [intOf]; omega
    · have hkI : (m : Int) ≤ (k : Int) := by omega
      obtain ⟨pk, ck, hwk⟩ := hon.wk
      obtain ⟨⟨a0, a1⟩, _⟩ := two2 hwk.box
      have HEN : Hid (cutE xs = if lk = false ∧ xk = [] then some l else none) := by
        show _ = _
        rw [HCE.out, hon.cut, show m - k = 0 from by omega]
        unfold cutL endE
        simp
      clear hwk hon hlk
      cases lk with
      | true =>
        have HN : Hid (cutE xs = none) := by show _ = _; rw [HEN.out]; simp
        go_wp2
        go_quiet (fail)
        go_wp2
        go_ret2
        exact ⟨.inr ⟨q, l.length, cq, HN.out, rfl⟩, below_drewN HO.out.bel _⟩
      | false =>
        by_cases hxk : xk = []
        · subst hxk
          have HN : Hid (cutE xs = some l) := by show _ = _; rw [HEN.out]; simp
          simp only [List.length_nil] at a0
          go_wp2
          go_quiet (fail)
          go_wp2
          go_ret2
          exact ⟨.inl ⟨l, _, HN.out, rfl, HO.out.own.below (below_drewN (Below.refl _ _) _)⟩, below_drewN HO.out.bel _⟩
        · have HN : Hid (cutE xs = none) := by show _ = _; rw [HEN.out]; simp [hxk]
          have g3 : ((xk.length : Int) == 0) = false := by have := List.length_pos_iff.2 hxk; simp; exact hxk
          clear hxk
          go_wp2
          go_quiet (fail)
          go_wp2
          go_ret2
          exact ⟨.inr ⟨q, l.length, cq, HN.out, rfl⟩, below_drewN HO.out.bel _⟩
end Go.Proofs.Ytlcbjmbphekliaa
namespace Go.Proofs.Ytlcbjmbphekliaa
open Go.RowKit Go.WideShapes

theorem cut_to (p : Option Addr) (n c k : Nat) (hk : k ≤ c) : ∀ w, (Instr.slice 22 (.slice p n c) none (some (.int .i64 (k : Int))) none).run Try.prog w = .ok (.slice p k c) w := by
  intro w
  rw [run_slice_h w 22 p n c (by kernel_rfl) .i64 k (by omega) (by omega)]
  have hs : (sizeOf (Try.prog.elem 22)).run Try.prog w = .ok 1 w := by kernel_rfl
  rw [hs]
  have e2 : (if c = 0 then p else p.map (·.add (0 * 1))) = p := by
    split
    · rfl
    · cases p with
      | none => rfl
      | some a => rw [Option.map_some, Nat.zero_mul]; rcases a with ⟨b, o, s⟩; cases s <;> simp [Addr.add]
  show Result.ok (Value.slice (if c = 0 then p else p.map (·.add (0 * 1))) (k - 0) (c - 0)) w = _
  rw [e2]
  rfl
/-- What Read answers. -/
def ReadOut (xs : List Nat) (base : Nat) (e : Ending) (w' : World) : Prop :=
  (∃ l v, readE xs = some l ∧ e = .returned (.tuple #[v, .int .i64 0]) ∧ EOwn w' base v l) ∨ (readE xs = none ∧ e = .returned (.tuple #[.slice none 0 0, .int .i64 8]))
theorem readE_len {xs : List Nat} (h : xs.length < 4 ∨ 65536 < xs.length) : readE xs = none := by unfold readE; rw [if_pos h]
theorem readE_sum {xs : List Nat} (h : ¬ (xs.length < 4 ∨ 65536 < xs.length)) (hs : ¬ xs.drop (xs.length - 4) = sum4 (xs.take (xs.length - 4))) : readE xs = none := by unfold readE; rw [if_neg h, if_neg hs]
theorem readE_cut {xs : List Nat} (h : ¬ (xs.length < 4 ∨ 65536 < xs.length)) (hs : xs.drop (xs.length - 4) = sum4 (xs.take (xs.length - 4))) (hc : cutE (xs.take (xs.length - 4)) = none) : readE xs = none := by unfold readE; rw [if_neg h, if_pos hs, hc]
theorem readE_chk {xs : List Nat} (h : ¬ (xs.length < 4 ∨ 65536 < xs.length)) (hs : xs.drop (xs.length - 4) = sum4 (xs.take (xs.length - 4))) {l : List EntV} (hc : cutE (xs.take (xs.length - 4)) = some l) : readE xs = if checkE l = 0 then some l else none := by unfold readE; rw [if_neg h, if_pos hs, hc]
set_option maxRecDepth 8000 in
set_option maxHeartbeats 1000000 in
theorem Read_any (p : Option Addr) (n c : Nat) (xs : List Nat) (w : World) (hn : n = xs.length) (hb : BIn w p xs) (hc : n ≤ c ∧ c ≤ maxLen ∧ (p = none → c = 0)) :
    Calls Try.prog 85 #[.slice p n c] w fun e w' => ReadOut xs w.heap.size e w' ∧ Below w.heap.size w w' := by
  by_cases h1 : n < 4
  · have g1 : (n : Int) < 4 := by omega
    have HN : Hid (readE xs = none) := readE_len (by omega)
    clear h1 hb hc hn
    go_enter Try.func85, Try.ntmps85
    go_wp2
    go_ret2
    exact ⟨.inr ⟨HN.out, rfl⟩, Below.refl _ _⟩
  by_cases h2 : 65536 < n
  · have g1 : (4 : Int) ≤ (n : Int) := by omega
    have g2 : (65536 : Int) < (n : Int) := by omega
    have HN : Hid (readE xs = none) := readE_len (by omega)
    clear h1 h2 hb hc hn
    go_enter Try.func85, Try.ntmps85
    go_wp2
    go_ret2
    exact ⟨.inr ⟨HN.out, rfl⟩, Below.refl _ _⟩
  have hlen : ¬ (xs.length < 4 ∨ 65536 < xs.length) := by omega
  obtain ⟨z, hz⟩ : ∃ z, n - 4 = z := ⟨_, rfl⟩
  have hxz : xs.length - 4 = z := by omega
  have hw : IntKind.i64.wrap ((n : Int) - 4) = (z : Int) := by rw [IntKind.wrap_i64]; omega
  obtain ⟨p', hs1, hbn, hpn, _⟩ := cut_from p n c z xs hn hc.1 (by omega) hc.2.2
  have hs2 := cut_to p n c z (by omega)
  have ht : (xs.take z).length = z := by rw [List.length_take]; omega
  have HSM : Hid (∀ w', Below w.heap.size w w' → Calls Try.prog 93 #[.slice p z c] w' fun e w2 => ∃ g, e = .returned (.slice (some ⟨g, 0, none⟩) 4 8) ∧ BIn w2 (some ⟨g, 0, none⟩) (sum4 (xs.take z)) ∧ Below w'.heap.size w' w2) := fun w' h => sum_page p z c (xs.take z) w' ht.symm ((hb.below h).take' z) (by omega)
  have HBD : Hid (∀ w', Below w.heap.size w w' → BIn w' p' (xs.drop z) ∧ n - z = (xs.drop z).length) := fun w' h => ⟨hbn w' (hb.below h), by rw [List.length_drop, hn]⟩
  have HCU : Hid (∀ w', Below w.heap.size w w' → Calls Try.prog 98 #[.slice p z c] w' fun e w2 => CutOut (xs.take z) w'.heap.size e w2 ∧ Below w'.heap.size w' w2) := fun w' h => cutEntries_any p z c (xs.take z) w' ht.symm ((hb.below h).take' z) ⟨by omega, hc.2⟩ (by omega)
  have g1 : (4 : Int) ≤ (n : Int) := by omega
  have g2 : (n : Int) ≤ 65536 := by omega
  have HL : Hid (¬ (xs.length < 4 ∨ 65536 < xs.length) ∧ xs.length - 4 = z) := ⟨hlen, hxz⟩
  obtain ⟨r, hr⟩ : ∃ r, decide (xs.drop z = sum4 (xs.take z)) = r := ⟨_, rfl⟩
  have HRR : Hid (decide (xs.drop z = sum4 (xs.take z)) = r) := hr
  clear h1 h2 hb hc hn hz hxz hbn hpn ht hlen hr
  go_enter Try.func85, Try.ntmps85
  go_upto_region 4 with fail
  go_cut [26] from 18 (fun j wx => j = .bool (!r) ∧ Below w.heap.size w wx)
  case first =>
    go_region_with (first | (go_at_call 93; refine (HSM.out _ (Below.refl _ _).drew).mono ?_; rintro e w2 ⟨g4, rfl, hi4, hb4⟩; have hb5 := below_dw hb4; have HEQ := equal_any p' (some ⟨g4, 0, none⟩) (n - z) 4 (c - z) 8 _ _ w2 (HBD.out _ hb5).1 hi4 (HBD.out _ hb5).2 rfl r HRR.out; have HB5 : Hid (Below w.heap.size w w2) := hb5; clear hb4 hb5 hi4) | (go_at_call 60; refine HEQ.mono ?_; rintro e w6 ⟨rfl, rfl⟩))
    all_goals go_wp2
    all_goals go_meet
    all_goals exact ⟨rfl, HB5.out⟩
  case rest =>
    obtain ⟨rfl, hb3⟩ := hcut
    have HB3 : Hid (Below w.heap.size w wc) := hb3
    clear hb3 HSM HBD
    cases r with
    | false =>
      have HN : Hid (readE xs = none) := readE_sum HL.out.1 (by rw [HL.out.2]; exact of_decide_eq_false HRR.out)
      go_wp2
      go_ret2
      exact ⟨.inr ⟨HN.out, rfl⟩, HB3.out⟩
    | true =>
      go_wp2_with fail
      refine (HCU.out _ HB3.out).mono ?_
      rintro e w4 ⟨hcut, hb4⟩
      have HB4 : Hid (Below w.heap.size w w4) := below_bt HB3.out hb4
      rcases hcut with ⟨l, v, hce, rfl, hown⟩ | ⟨q, m, cq, hce, rfl⟩
      · obtain ⟨q, cq, rfl, _, _, _⟩ := hown.form
        obtain ⟨C, hC⟩ : ∃ C, checkE l = C := ⟨_, rfl⟩
        have HCH := Check_any q l.length cq l w4 ⟨rfl, hown.ents⟩ C hC
        have HRE : Hid (readE xs = if C = 0 then some l else none) := by
          show _ = _
          rw [readE_chk HL.out.1 (by rw [HL.out.2]; exact of_decide_eq_true HRR.out) (l := l) (by rw [HL.out.2]; exact hce), hC]
        have HOW : Hid (EOwn w4 w.heap.size (.slice q l.length cq) l) := own_mono hown HB3.out.size
        clear hown hce hC hb4
        go_wp2_with fail
        refine HCH.mono ?_
        rintro e w5 ⟨rfl, hb5⟩
        have HB5 : Hid (Below w.heap.size w w5) := below_bt HB4.out hb5
        have HO5 : Hid (EOwn w5 w.heap.size (.slice q l.length cq) l) := HOW.out.below hb5
        clear hb5 HCH HOW
        rcases Nat.eq_zero_or_pos C with h0 | h0
        · subst h0
          have HN : Hid (readE xs = some l) := by show _ = _; rw [HRE.out, if_pos rfl]
          go_wp2
          go_ret2
          exact ⟨.inl ⟨l, _, HN.out, rfl, HO5.out⟩, HB5.out⟩
        · have hne : ((C : Int) != 0) = true := by simp; omega
          have HN : Hid (readE xs = none) := by show _ = _; rw [HRE.out, if_neg (by omega)]
          clear h0
          go_wp2
          go_ret2
          exact ⟨.inr ⟨HN.out, rfl⟩, HB5.out⟩
      · have HN : Hid (readE xs = none) := readE_cut HL.out.1 (by rw [HL.out.2]; exact of_decide_eq_true HRR.out) (by rw [HL.out.2]; exact hce)
        clear hce hb4
        go_wp2
        go_ret2
        exact ⟨.inr ⟨HN.out, rfl⟩, HB4.out⟩
end Go.Proofs.Ytlcbjmbphekliaa
namespace Go.Proofs.Ytlcbjmbphekliaa
open Go.RowKit Go.WideShapes

theorem results_cell_tmp2 {fn : Func} {p t u : Tmp} {ty : TypeId} (h : fn.results = #[.cell p ty, .tmp t, .tmp u]) (tmps : Array Value) (P : Program) (w : World) :
    (results fn tmps).run P w = ((asAddr (tmps.getD p undef)).run P w).andThen fun a w₁ => ((loadVar ty a).run P w₁).andThen fun v w₂ => .ok (.tuple #[v, tmps.getD t undef, tmps.getD u undef]) w₂ := by
  simp only [results, h]
  simp [Sem.run_bind, Result.andThen]
theorem set4_below {w w' : World} {a b c d : Value} (h : Below w.heap.size w w') : Below w.heap.size w ((((w'.setCell ⟨w.heap.size, 0, none⟩ a).setCell ⟨w.heap.size, 1, none⟩ b).setCell ⟨w.heap.size, 2, none⟩ c).setCell ⟨w.heap.size, 3, none⟩ d) := (((h.setCell (Nat.le_refl _) _).setCell (Nat.le_refl _) _).setCell (Nat.le_refl _) _).setCell (Nat.le_refl _) _
/-- The first entry with a key. -/
def findE : List EntV → ByteArray → Option EntV
  | [], _ => none
  | x :: l, k => if x.key = k then some x else findE l k
def findR (xs : List Nat) (k : ByteArray) : EntV × Bool × Nat :=
  match readE xs with
  | none => (zeroE, false, 8)
  | some l => if isKeyB k = false then (zeroE, false, 60) else match findE l k with | some x => (x, true, 0) | none => (zeroE, false, 0)
theorem findR_bad {xs : List Nat} (k : ByteArray) (h : readE xs = none) : findR xs k = (zeroE, false, 8) := by unfold findR; rw [h]
theorem findR_key {xs : List Nat} {l : List EntV} {k : ByteArray} (h : readE xs = some l) (hk : isKeyB k = false) : findR xs k = (zeroE, false, 60) := by unfold findR; rw [h]; simp only; rw [if_pos hk]
def pickR : Option EntV → EntV × Bool × Nat
  | some x => (x, true, 0)
  | none => (zeroE, false, 0)
theorem findR_ok {xs : List Nat} {l : List EntV} {k : ByteArray} (h : readE xs = some l) (hk : isKeyB k = true) : findR xs k = pickR (findE l k) := by
  unfold findR
  rw [h]
  simp only
  rw [if_neg (by simp [hk])]
  cases findE l k <;> rfl
theorem findE_at {l : List EntV} {i : Nat} (h : i < l.length) {y : EntV} (hy : l.getD i zeroE = y) (k : ByteArray) : findE (l.drop i) k = if y.key = k then some y else findE (l.drop (i + 1)) k := by
  rw [dropE h, hy]; rfl
end Go.Proofs.Ytlcbjmbphekliaa
namespace Go.Proofs.Ytlcbjmbphekliaa
open Go.RowKit Go.WideShapes

/-- A page: where its entries and its bytes lie, and its entries. -/
structure ShV where
  qe : Option Addr
  ce : Nat
  qb : Option Addr
  cb : Nat
  ents : List EntV
def zeroS : ShV := ⟨none, 0, none, 0, []⟩
def shE (s : ShV) : Value := .slice s.qe s.ents.length s.ce
def shB (s : ShV) : Value := .slice s.qb (pageN s.ents).length s.cb
def cellsS (l : List ShV) : List Value := l.flatMap fun s => [shE s, shB s]
theorem cellsS_len (l : List ShV) : (cellsS l).length = l.length * 2 := by
  induction l with
  | nil => rfl
  | cons p l ih => simp only [cellsS, List.flatMap_cons, List.length_append, List.length_cons, List.length_nil] at *; omega
theorem cellsS_app (l m : List ShV) : cellsS (l ++ m) = cellsS l ++ cellsS m := by simp [cellsS]
theorem cellsS_at : ∀ (l : List ShV) (i : Nat), i < l.length → (cellsS l)[i * 2]? = some (shE (l.getD i zeroS)) ∧ (cellsS l)[i * 2 + 1]? = some (shB (l.getD i zeroS))
  | p :: l, 0, _ => ⟨rfl, rfl⟩
  | p :: l, i + 1, hi => by
    have := cellsS_at l i (by simpa using hi)
    rw [show (i + 1) * 2 = i * 2 + 1 + 1 from by omega]
    simpa [cellsS, List.getD] using this
  | [], _, h => by simp at h
def pagesOf (l : List ShV) : List (List EntV) := l.map ShV.ents
theorem pagesOf_len (l : List ShV) : (pagesOf l).length = l.length := by simp [pagesOf]
structure ShOk (w : World) (s : ShV) : Prop where
  ents : EntsIn w s.qe s.ents
  bytes : BIn w s.qb (pageN s.ents)
  pos : 0 < s.ents.length
  cape : s.ents.length ≤ s.ce ∧ s.ce ≤ maxLen
  capb : (pageN s.ents).length ≤ s.cb ∧ s.cb ≤ maxLen ∧ (s.qb = none → s.cb = 0)
theorem ShOk.below {w w' : World} {s : ShV} (h : ShOk w s) (hb : Below w.heap.size w w') : ShOk w' s := ⟨h.ents.below hb, h.bytes.below hb, h.pos, h.cape, h.capb⟩
theorem page_pos (l : List EntV) : 0 < (pageN l).length := by rw [page_len]; omega
/-- Memory that no row of elements of the type T, made from base on, is. -/
def Safe (T : TypeId) (base : Nat) (w : World) (q : Option Addr) : Prop := ∀ a, q = some a → a.block < base ∨ ∃ cs t fr, w.heap[a.block]? = some (.cells cs t fr) ∧ t ≠ T
theorem Safe.below {T : TypeId} {base : Nat} {w w' : World} {q : Option Addr} (h : Safe T base w q) (hb : Below w.heap.size w w') : Safe T base w' q := by
  intro a ha
  rcases h a ha with h | ⟨cs, t, fr, h1, h2⟩
  · exact .inl h
  · exact .inr ⟨cs, t, fr, block_below h1 hb, h2⟩
theorem Safe.apart {T : TypeId} {base n sz : Nat} {w : World} {q : Option Addr} {v : Value} {xs : List Value} (h : Safe T base w q) (ho : w.ownsRow base T sz v n xs) {a : Addr} (ha : q = some a) : v.ownBlock ≠ some a.block := by
  intro e
  rcases h a ha with h | ⟨cs, t, fr, h1, h2⟩
  · have := (World.ownsRow.lt ho _ e).1; omega
  · exact own_neS ho h1 h2 e
theorem cell_grown {w w' : World} {r : Option Nat} {a : Addr} {u : Value} (hg : w.grownBy w' r) (hr : r ≠ some a.block) (h : w.cell? a = some u) : w'.cell? a = some u := by
  have hlt := World.block_lt_of_cell? _ _ h
  have hbk : w'.heap[a.block]? = w.heap[a.block]? := hg.block a.block hlt (fun e => hr e.symm)
  rw [← h]
  unfold World.cell?
  simp only [hbk]
theorem Safe.grown {T : TypeId} {base n sz : Nat} {w w' : World} {q : Option Addr} {v : Value} {xs : List Value} (h : Safe T base w q) (ho : w.ownsRow base T sz v n xs) (hg : w.grownBy w' v.ownBlock) : Safe T base w' q := by
  intro a ha
  have hne := h.apart ho ha
  rcases h a ha with h | ⟨cs, t, fr, h1, h2⟩
  · exact .inl h
  · exact .inr ⟨cs, t, fr, (hg.block _ (lt_heap h1) (fun e => hne e.symm)).trans h1, h2⟩
theorem bin_safe {T : TypeId} {base n sz : Nat} {w w' : World} {q : Option Addr} {v : Value} {xs : List Value} {ys : List Nat} (h : Safe T base w q) (ho : w.ownsRow base T sz v n xs) (hg : w.grownBy w' v.ownBlock) (hb : BIn w q ys) : BIn w' q ys := by
  refine ⟨fun hp => ?_, hb.2⟩
  obtain ⟨b, o, rfl, hc⟩ := hb.1 hp
  exact ⟨b, o, rfl, fun i hi => cell_grown (a := ⟨b, o + i, none⟩) hg (h.apart ho (a := ⟨b, o, none⟩) rfl) (hc i hi)⟩
theorem ents_safe {T : TypeId} {base n sz : Nat} {w w' : World} {q : Option Addr} {v : Value} {xs : List Value} {l : List EntV} (h : Safe T base w q) (ho : w.ownsRow base T sz v n xs) (hg : w.grownBy w' v.ownBlock) (hb : EntsIn w q l) : EntsIn w' q l := by
  intro hp
  obtain ⟨b, o, rfl, hc⟩ := hb hp
  refine ⟨b, o, rfl, fun i hi => ?_⟩
  obtain ⟨e0, e1, e2, e3⟩ := hc i hi
  have hne := h.apart ho (a := ⟨b, o, none⟩) rfl
  exact ⟨cell_grown (a := ⟨b, _, none⟩) hg hne e0, cell_grown (a := ⟨b, _, none⟩) hg hne e1, cell_grown (a := ⟨b, _, none⟩) hg hne e2, cell_grown (a := ⟨b, _, none⟩) hg hne e3⟩
theorem safe_old {T : TypeId} {w w' : World} {q : Option Addr} {l : List EntV} (h : EntsIn w q l) (h0 : 0 < l.length) : Safe T w.heap.size w' q := by
  intro a ha
  obtain ⟨b, o, e, hc⟩ := h h0
  rw [ha] at e
  rw [Option.some.inj e]
  exact .inl (World.block_lt_of_cell? _ _ (hc 0 h0).1)
theorem safe_oldB {T : TypeId} {w w' : World} {q : Option Addr} {ys : List Nat} (h : BIn w q ys) (h0 : 0 < ys.length) : Safe T w.heap.size w' q := by
  intro a ha
  obtain ⟨b, o, e, hc⟩ := h.1 h0
  rw [ha] at e
  rw [Option.some.inj e]
  exact .inl (World.block_lt_of_cell? _ _ (hc 0 h0))
theorem safe_own {T e : TypeId} {base base' n sz : Nat} {w : World} {q : Option Addr} {m c : Nat} {xs : List Value} (h : w.ownsRow base' e sz (.slice q m c) n xs) (hne : e ≠ T) : Safe T base w q := by
  intro a ha
  rcases h.2 with ⟨hv, _⟩ | ⟨g, cap, cur, hv, _, hg, _⟩
  · simp only [Value.slice.injEq] at hv; rw [hv.1] at ha; cases ha
  · simp only [Value.slice.injEq] at hv
    rw [hv.1] at ha
    have := Option.some.inj ha
    subst this
    exact .inr ⟨_, _, _, hg, hne⟩
/-- Pages of the call's own, in a row that grows. -/
structure SOwn (w : World) (base : Nat) (v : Value) (ss : List ShV) : Prop where
  own : w.ownsRow base 92 2 v ss.length (cellsS ss)
  ok : ∀ s ∈ ss, ShOk w s ∧ Safe 92 base w s.qe ∧ Safe 92 base w s.qb
theorem sown_nil (w : World) (base : Nat) : SOwn w base (.slice none 0 0) [] := ⟨World.ownsRow_nil _ _ _ _, by simp⟩
theorem SOwn.below {w w' : World} {base : Nat} {v : Value} {ss : List ShV} (h : SOwn w base v ss) (hb : Below w.heap.size w w') : SOwn w' base v ss := ⟨own_below h.own hb, fun s hs => ⟨(h.ok s hs).1.below hb, (h.ok s hs).2.1.below hb, (h.ok s hs).2.2.below hb⟩⟩
theorem SOwn.app {w w' : World} {base : Nat} {v v' : Value} {ss : List ShV} {s : ShV} (h : SOwn w base v ss) (hg : w.grownBy w' v.ownBlock) (ho : w'.ownsRow base 92 2 v' (ss.length + 1) (cellsS ss ++ [shE s, shB s])) (hs : ShOk w s ∧ Safe 92 base w s.qe ∧ Safe 92 base w s.qb) : SOwn w' base v' (ss ++ [s]) := by
  refine ⟨?_, fun t ht => ?_⟩
  · rw [cellsS_app, List.length_append]
    exact ho
  · have ht' : ShOk w t ∧ Safe 92 base w t.qe ∧ Safe 92 base w t.qb := by
      rcases List.mem_append.1 ht with ht | ht
      · exact h.ok t ht
      · rw [List.mem_singleton.1 ht]; exact hs
    exact ⟨⟨ents_safe ht'.2.1 h.own hg ht'.1.ents, bin_safe ht'.2.2 h.own hg ht'.1.bytes, ht'.1.pos, ht'.1.cape, ht'.1.capb⟩, ht'.2.1.grown h.own hg, ht'.2.2.grown h.own hg⟩
theorem SOwn.form {w : World} {base : Nat} {v : Value} {ss : List ShV} (h : SOwn w base v ss) : ∃ q m, v = .slice q ss.length m ∧ ss.length ≤ m ∧ m ≤ maxLen ∧ (q = none → m = 0) := own_form h.own
/-- Pages that are read. -/
def SheetsIn (w : World) (q : Option Addr) (ss : List ShV) : Prop :=
  0 < ss.length → ∃ b o, q = some ⟨b, o, none⟩ ∧ ∀ i, i < ss.length → w.cell? ⟨b, o + i * 2, none⟩ = some (shE (ss.getD i zeroS)) ∧ w.cell? ⟨b, o + (i * 2 + 1), none⟩ = some (shB (ss.getD i zeroS))
structure Sheets (w : World) (q : Option Addr) (n : Nat) (ss : List ShV) : Prop where
  n : n = ss.length
  lies : SheetsIn w q ss
  ok : ∀ s ∈ ss, ShOk w s
theorem SheetsIn.below {w w' : World} {q : Option Addr} {ss : List ShV} (h : SheetsIn w q ss) (hb : Below w.heap.size w w') : SheetsIn w' q ss := by
  intro hp
  obtain ⟨b, o, rfl, hc⟩ := h hp
  refine ⟨b, o, rfl, fun i hi => ?_⟩
  obtain ⟨e0, e1⟩ := hc i hi
  exact ⟨(hb.cell (World.block_lt_of_cell? _ _ e0)).trans e0, (hb.cell (World.block_lt_of_cell? _ _ e1)).trans e1⟩
theorem Sheets.below {w w' : World} {q : Option Addr} {n : Nat} {ss : List ShV} (h : Sheets w q n ss) (hb : Below w.heap.size w w') : Sheets w' q n ss := ⟨h.n, h.lies.below hb, fun s hs => (h.ok s hs).below hb⟩
theorem SheetsIn.addr {w : World} {q : Option Addr} {ss : List ShV} (h : SheetsIn w q ss) (hw : 0 < ss.length) : ∃ b o, q = some ⟨b, o, none⟩ := by
  obtain ⟨b, o, e, _⟩ := h hw
  exact ⟨b, o, e⟩
theorem SheetsIn.at {w : World} {b o : Nat} {ss : List ShV} (h : SheetsIn w (some ⟨b, o, none⟩) ss) {k : Nat} (hk : k < ss.length) : w.cell? ⟨b, o + k * 2, none⟩ = some (shE (ss.getD k zeroS)) ∧ w.cell? ⟨b, o + k * 2 + 1, none⟩ = some (shB (ss.getD k zeroS)) := by
  obtain ⟨b', o', e, hc⟩ := h (by omega)
  simp only [Option.some.injEq, Addr.mk.injEq, and_true] at e
  obtain ⟨rfl, rfl⟩ := e
  obtain ⟨h1, h2⟩ := hc k hk
  exact ⟨h1, by rw [Nat.add_assoc]; exact h2⟩
theorem getD_memS {ss : List ShV} {k : Nat} (hk : k < ss.length) : ss.getD k zeroS ∈ ss := by
  rw [List.getD_eq_getElem?_getD, List.getElem?_eq_getElem hk]; exact List.getElem_mem _
theorem SOwn.sheets {w : World} {base : Nat} {q : Option Addr} {n m : Nat} {ss : List ShV} (h : SOwn w base (.slice q n m) ss) : Sheets w q ss.length ss := by
  refine ⟨rfl, fun hp => ?_, fun s hs => (h.ok s hs).1⟩
  rcases h.own.2 with ⟨_, hn⟩ | ⟨g, cap, cur, hv, hb, hg, hle, hmax, hsz, htk⟩
  · omega
  · simp only [Value.slice.injEq] at hv
    obtain ⟨rfl, rfl, rfl⟩ := hv
    refine ⟨g, 0, rfl, fun i hi => ?_⟩
    obtain ⟨c0, c1⟩ := cellsS_at ss i hi
    exact ⟨by rw [Nat.zero_add, World.ownsRow.cellAt h.own _ (by omega), c0], by rw [Nat.zero_add, World.ownsRow.cellAt h.own _ (by omega), c1]⟩
theorem info_sheet : (Try.prog.info? 92).map (fun i => (i.zero, i.size, i.bytes)) = some (some (.agg #[.slice none 0 0, .slice none 0 0]), 2, 48) := by kernel_rfl
theorem sh_one (s : ShV) : ∀ u ∈ [shE s, shB s], u.oneCell' = true := by
  intro u hu
  simp only [List.mem_cons, List.not_mem_nil, or_false] at hu
  rcases hu with rfl | rfl <;> rfl
theorem dropS {ss : List ShV} {k : Nat} (h : k < ss.length) : ss.drop k = ss.getD k zeroS :: ss.drop (k + 1) := by
  rw [List.getD_eq_getElem?_getD, List.getElem?_eq_getElem h]; exact List.drop_eq_getElem_cons h
theorem takeS {ss : List ShV} {k : Nat} (h : k < ss.length) : ss.take (k + 1) = ss.take k ++ [ss.getD k zeroS] := by
  rw [List.getD_eq_getElem?_getD, List.getElem?_eq_getElem h]; exact List.take_succ_eq_append_getElem h
end Go.Proofs.Ytlcbjmbphekliaa
namespace Go.Proofs.Ytlcbjmbphekliaa
open Go.RowKit Go.WideShapes

theorem Sheets.get {w : World} {q : Option Addr} {n : Nat} {ss : List ShV} (h : Sheets w q n ss) {k : Nat} (hk : k < n) : ∃ b o, q = some ⟨b, o, none⟩ ∧ ∃ qe ce qb cb p, ss.getD k zeroS = ⟨qe, ce, qb, cb, p⟩ ∧ w.cell? ⟨b, o + k * 2, none⟩ = some (.slice qe p.length ce) ∧ w.cell? ⟨b, o + k * 2 + 1, none⟩ = some (.slice qb (pageN p).length cb) ∧ ShOk w ⟨qe, ce, qb, cb, p⟩ := by
  have hn := h.n
  obtain ⟨b, o, rfl⟩ := h.lies.addr (by omega)
  have h1 := h.lies.at (k := k) (by omega)
  have h2 := h.ok _ (getD_memS (k := k) (by omega))
  refine ⟨b, o, rfl, ?_⟩
  rcases hs : ss.getD k zeroS with ⟨qe, ce, qb, cb, p⟩
  rw [hs] at h1 h2
  exact ⟨qe, ce, qb, cb, p, rfl, h1.1, h1.2, h2⟩
theorem sfirst_any (q : Option Addr) (n c : Nat) (qb : Option Addr) (nb cb : Nat) (l : List EntV) (w : World) (h : EntsL w q n l) (h0 : 0 < l.length) (k : ByteArray) (hk : firstK l = k) :
    Calls Try.prog 64 #[.agg #[.slice q n c, .slice qb nb cb]] w fun e w' => e = .returned (.string k) ∧ Below w.heap.size w w' := by
  obtain ⟨b, o, rfl⟩ := h.lies.addr h0
  obtain ⟨e0, _, _, _⟩ := (h.lies.below (below_alloc w (.cells #[.slice (some ⟨b, o, none⟩) n c, .slice qb nb cb] 92))).at h0
  have hn : (0 : Int) < (n : Int) := by have := h.n; omega
  unfold firstK at hk
  rw [hk, Nat.zero_mul, Nat.add_zero] at e0
  clear h hk h0
  go_enter Try.func64, Try.ntmps64
  go_wp2
  go_ret
  exact ⟨rfl, below_alloc _ _⟩
theorem slast_any (q : Option Addr) (n c : Nat) (qb : Option Addr) (nb cb : Nat) (l : List EntV) (w : World) (h : EntsL w q n l) (h0 : 0 < l.length) (hz : n ≤ 1000000) (k : ByteArray) (hk : lastKy l = k) :
    Calls Try.prog 62 #[.agg #[.slice q n c, .slice qb nb cb]] w fun e w' => e = .returned (.string k) ∧ Below w.heap.size w w' := by
  obtain ⟨b, o, rfl⟩ := h.lies.addr h0
  have hnn := h.n
  obtain ⟨m, hm⟩ : ∃ m, n = m + 1 := ⟨n - 1, by omega⟩
  obtain ⟨e0, _, _, _⟩ := (h.lies.below (below_alloc w (.cells #[.slice (some ⟨b, o, none⟩) n c, .slice qb nb cb] 92))).at (k := m) (by omega)
  unfold lastKy at hk
  rw [show l.length - 1 = m by omega] at hk
  rw [hk] at e0
  have hw : IntKind.i64.wrap ((n : Int) - 1) = (m : Int) := by rw [IntKind.wrap_i64]; omega
  have h1 : (0 : Int) ≤ (m : Int) := by omega
  have h2 : (m : Int) < (n : Int) := by omega
  clear h hk h0 hnn hz hm
  go_enter Try.func62, Try.ntmps62
  go_wp2
  go_ret
  exact ⟨rfl, below_alloc _ _⟩
theorem pfirst_any (q : Option Addr) (n c : Nat) (ss : List ShV) (w : World) (h : Sheets w q n ss) (h0 : 0 < n) (k : ByteArray) (hk : firstK (ss.getD 0 zeroS).ents = k) :
    Calls Try.prog 36 #[.slice q n c] w fun e w' => e = .returned (.string k) ∧ Below w.heap.size w w' := by
  obtain ⟨b, o, rfl, qe, ce, qb, cb, p, hs, e0, e1, hok⟩ := h.get h0
  rw [hs] at hk
  rw [Nat.zero_mul, Nat.add_zero] at e0 e1
  have HF := sfirst_any qe p.length ce qb (pageN p).length cb p w ⟨rfl, hok.ents⟩ hok.pos k hk
  have hn : (0 : Int) < (n : Int) := by omega
  clear h hs hok hk h0
  go_enter Try.func36, Try.ntmps36
  go_wp2_with fail
  refine HF.mono ?_
  rintro e w1 ⟨rfl, hb⟩
  go_wp2
  go_ret
  exact ⟨rfl, hb⟩
theorem plast_any (q : Option Addr) (n c : Nat) (ss : List ShV) (w : World) (h : Sheets w q n ss) (h0 : 0 < n) (hz : n ≤ 1000000) (hl : ∀ s ∈ ss, s.ents.length ≤ 1000000) (k : ByteArray) (hk : lastKy (ss.getD (n - 1) zeroS).ents = k) :
    Calls Try.prog 37 #[.slice q n c] w fun e w' => e = .returned (.string k) ∧ Below w.heap.size w w' := by
  obtain ⟨m, hm⟩ : ∃ m, n = m + 1 := ⟨n - 1, by omega⟩
  obtain ⟨b, o, rfl, qe, ce, qb, cb, p, hs, e0, e1, hok⟩ := h.get (k := m) (by omega)
  rw [show n - 1 = m by omega, hs] at hk
  have hp := hl _ (getD_memS (k := m) (by have := h.n; omega))
  rw [hs] at hp
  have HF := slast_any qe p.length ce qb (pageN p).length cb p w ⟨rfl, hok.ents⟩ hok.pos hp k hk
  have hw : IntKind.i64.wrap ((n : Int) - 1) = (m : Int) := by rw [IntKind.wrap_i64]; omega
  have h1 : (0 : Int) ≤ (m : Int) := by omega
  have h2 : (m : Int) < (n : Int) := by omega
  clear h hs hok hk h0 hz hl hp hm
  go_enter Try.func37, Try.ntmps37
  go_wp2_with fail
  refine HF.mono ?_
  rintro e w1 ⟨rfl, hb⟩
  go_wp2
  go_ret
  exact ⟨rfl, hb⟩
theorem pcount_any (q : Option Addr) (n c : Nat) (w : World) : Calls Try.prog 38 #[.slice q n c] w fun e w' => e = .returned (.int .i64 (n : Int)) ∧ w' = w := by
  go_enter Try.func38, Try.ntmps38
  go_wp2
  go_ret
  exact ⟨rfl, rfl⟩
theorem results_cell_tmp {fn : Func} {p t : Tmp} {ty : TypeId} (h : fn.results = #[.cell p ty, .tmp t]) (tmps : Array Value) (P : Program) (w : World) :
    (results fn tmps).run P w = ((asAddr (tmps.getD p undef)).run P w).andThen fun a w₁ => ((loadVar ty a).run P w₁).andThen fun v w₂ => .ok (.tuple #[v, tmps.getD t undef]) w₂ := by
  simp only [results, h]
  simp [Sem.run_bind, Result.andThen]
theorem set4_at {B g : Nat} {w w' : World} {a b c d : Value} (h : Below B w w') (hg : B ≤ g) : Below B w ((((w'.setCell ⟨g, 0, none⟩ a).setCell ⟨g, 1, none⟩ b).setCell ⟨g, 2, none⟩ c).setCell ⟨g, 3, none⟩ d) := (((h.setCell (p := ⟨g, 0, none⟩) hg a).setCell (p := ⟨g, 1, none⟩) hg b).setCell (p := ⟨g, 2, none⟩) hg c).setCell (p := ⟨g, 3, none⟩) hg d
/-- The entry itself, if it is of the key. -/
def ofKeyE (x : EntV) (k : ByteArray) : EntV × Bool := if x.key = k then (x, true) else (zeroE, false)
set_option maxRecDepth 8000 in
set_option maxHeartbeats 1000000 in
theorem ofKey_any (x : EntV) (k : ByteArray) (w : World) (y : EntV) (is : Bool) (hR : ofKeyE x k = (y, is)) :
    Calls Try.prog 63 #[entV x, .string k] w fun e w' => e = .returned (.tuple #[entV y, .bool is]) ∧ Below w.heap.size w w' := by
  obtain ⟨ke, ve, se, ge⟩ := x
  rw [entV_def]
  have hb0 := below_alloc w (.cells #[.string ke, .string ve, .int .i64 se, .bool ge] 29)
  have hx0 := heap_alloc_new w (.cells #[.string ke, .string ve, .int .i64 se, .bool ge] 29)
  have hb1 := below_alloc (w.alloc (.cells #[.string ke, .string ve, .int .i64 se, .bool ge] 29)) (.cells zE 29)
  have hx1 := heap_alloc_new (w.alloc (.cells #[.string ke, .string ve, .int .i64 se, .bool ge] 29)) (.cells zE 29)
  have HB : Hid (Below w.heap.size w ((w.alloc (.cells #[.string ke, .string ve, .int .i64 se, .bool ge] 29)).alloc (.cells zE 29))) := below_bt hb0 hb1
  have hsz : (w.alloc (.cells #[.string ke, .string ve, .int .i64 se, .bool ge] 29)).heap.size = w.heap.size + 1 := by simp
  rw [hsz] at hx1
  obtain ⟨⟨z0, z1, z2, z3⟩, f0, f1, f2, f3⟩ := four hx1
  obtain ⟨⟨y0, y1, y2, y3⟩, _⟩ := four (block_below hx0 hb1)
  clear hb0 hx0 hb1 hx1 hsz
  unfold zE at z0 z1 z2 z3 f0 f1 f2 f3 y0 y1 y2 y3
  by_cases hk : ke = k
  · subst hk
    have e1 : ofKeyE ⟨ke, ve, se, ge⟩ ke = (⟨ke, ve, se, ge⟩, true) := by unfold ofKeyE; rw [if_pos rfl]
    rw [e1] at hR
    obtain ⟨rfl, rfl⟩ := Prod.mk.inj hR
    clear e1 hR
    go_enter Try.func63, Try.ntmps63
    go_wp2
    (try simp only [Exit.inBlock, Exit.then])
    refine bodyPost_ret (v := .tuple #[entV ⟨ke, ve, se, ge⟩, .bool true]) ?_ rfl ⟨rfl, ?_⟩
    · rw [results_cell_tmp rfl]
      go_simp
      rfl
    · exact below_bt (below_alloc _ _) (below_alloc _ _)
  · have g1 : (ke.toList == k.toList) = false := by rw [eq_str]; simp [hk]
    have e1 : ofKeyE ⟨ke, ve, se, ge⟩ k = (zeroE, false) := by unfold ofKeyE; rw [if_neg hk]
    rw [e1] at hR
    obtain ⟨rfl, rfl⟩ := Prod.mk.inj hR
    clear e1 hR hk
    go_enter Try.func63, Try.ntmps63
    go_wp2
    (try simp only [Exit.inBlock, Exit.then])
    refine bodyPost_ret (v := .tuple #[entV zeroE, .bool false]) ?_ rfl ⟨rfl, ?_⟩
    · rw [results_cell_tmp rfl]
      go_simp
      rfl
    · exact below_bt (below_alloc _ _) (below_alloc _ _)
end Go.Proofs.Ytlcbjmbphekliaa
