import Derived.Test.YtcfalgomcdmdhaaDoorJDGa
namespace Go.Proofs.YtcfalgomcdmdhaaDoor
open Go.RowKit Go.WideShapes Go.Joins
inductive SpV : Value → Value → Prop where
  | same (v : Value) : SpV v v
  | str (s s' : ByteArray) : SpV (.string s) (.string s')
  | u8 (a b : Nat) : SpV (.int .u8 (a : Int)) (.int .u8 (b : Int))
  | bl (a b : Bool) : SpV (.bool a) (.bool b)
  | i64 (a b : Int) : SpV (.int .i64 a) (.int .i64 b)
  | nil (q : Option Addr) (l c : Nat) : SpV (.slice q l c) (.slice none 0 0)
theorem SpV.trans {a b c : Value} (h : SpV a b) (h2 : SpV b c) : SpV a c := by
  cases h with
  | same => exact h2
  | str s s' => cases h2 with
    | same => exact .str _ _
    | str => exact .str _ _
  | u8 x y =>
    generalize hv : Value.int .u8 (y : Int) = v at h2
    cases h2 with
    | same => rw [← hv]; exact .u8 _ _
    | u8 => exact .u8 _ _
    | str => cases hv
    | bl => cases hv
    | i64 => cases hv
    | nil => cases hv
  | bl x y => cases h2 with
    | same => exact .bl _ _
    | bl => exact .bl _ _
  | i64 x y =>
    generalize hv : Value.int .i64 y = v at h2
    cases h2 with
    | same => rw [← hv]; exact .i64 _ _
    | i64 => exact .i64 _ _
    | u8 => cases hv
    | str => cases hv
    | bl => cases hv
    | nil => cases hv
  | nil q l c => cases h2 with
    | same => exact .nil _ _ _
    | nil => exact .nil _ _ _
theorem SpV.of_str {s : ByteArray} {v : Value} (h : SpV (.string s) v) : ∃ s', v = .string s' := by
  cases h <;> exact ⟨_, rfl⟩
theorem SpV.of_u8 {a : Nat} {v : Value} (h : SpV (.int .u8 (a : Int)) v) : ∃ b : Nat, v = .int .u8 (b : Int) := by
  generalize hu : Value.int .u8 (a : Int) = u at h
  cases h with
  | same => exact ⟨a, hu.symm⟩
  | u8 x y => exact ⟨y, rfl⟩
  | str => cases hu
  | bl => cases hu
  | i64 => cases hu
  | nil => cases hu
theorem SpV.of_bl {a : Bool} {v : Value} (h : SpV (.bool a) v) : ∃ b, v = .bool b := by
  cases h <;> exact ⟨_, rfl⟩
theorem SpV.of_i64 {a : Int} {v : Value} (h : SpV (.int .i64 a) v) : ∃ b, v = .int .i64 b := by
  generalize hu : Value.int .i64 a = u at h
  cases h with
  | same => exact ⟨a, hu.symm⟩
  | i64 x y => exact ⟨y, rfl⟩
  | u8 => cases hu
  | str => cases hu
  | bl => cases hu
  | nil => cases hu
theorem SpV.of_sl {q : Option Addr} {l c : Nat} {v : Value} (h : SpV (.slice q l c) v) : v = .slice q l c ∨ v = .slice none 0 0 := by
  cases h with
  | same => exact .inl rfl
  | nil => exact .inr rfl
structure SpW (U : Nat → Prop) (w w' : World) : Prop where
  os : w'.os = w.os
  tape : w'.tape = w.tape
  output : w'.output = w.output
  size : w.heap.size ≤ w'.heap.size
  out : ∀ k, k < w.heap.size → ¬ U k → w'.heap[k]? = w.heap[k]?
  cell : ∀ a v, w.cell? a = some v → ∃ v', w'.cell? a = some v' ∧ SpV v v'
  fz : ∀ a : Addr, a.block < w.heap.size → w'.frozen? a = w.frozen? a
theorem SpW.refl (U : Nat → Prop) (w : World) : SpW U w w := ⟨rfl, rfl, rfl, Nat.le_refl _, fun _ _ _ => rfl, fun _ v h => ⟨v, h, .same v⟩, fun _ _ => rfl⟩
theorem SpW.trans {U : Nat → Prop} {w w1 w2 : World} (h : SpW U w w1) (h2 : SpW U w1 w2) : SpW U w w2 :=
  ⟨h2.os.trans h.os, h2.tape.trans h.tape, h2.output.trans h.output, Nat.le_trans h.size h2.size, fun k hk hu => (h2.out k (Nat.lt_of_lt_of_le hk h.size) hu).trans (h.out k hk hu),
    fun a v hc => by obtain ⟨v1, c1, s1⟩ := h.cell a v hc; obtain ⟨v2, c2, s2⟩ := h2.cell a v1 c1; exact ⟨v2, c2, s1.trans s2⟩, fun a ha => (h2.fz a (Nat.lt_of_lt_of_le ha h.size)).trans (h.fz a ha)⟩
theorem SpW.below {U : Nat → Prop} {w w' : World} (hb : Below w.heap.size w w') : SpW U w w' :=
  ⟨hb.os, hb.tape, hb.output, hb.size, fun k hk _ => hb.block k hk, fun _ v hc => ⟨v, below_cell hc hb, .same v⟩, fun a ha => hb.frozen (p := a) ha⟩
theorem SpW.set1 {U : Nat → Prop} {w w' : World} (h : SpW U w w') {a : Addr} {u v : Value} (hu : U a.block) (hc : w.cell? a = some u) (hv : SpV u v) : SpW U w (w'.setCell a v) := by
  refine ⟨h.os, h.tape, h.output, by rw [World.size_setCell]; exact h.size, fun k hk hk2 => ?_, fun b x hb => ?_, fun b hb => by rw [World.frozen?_setCell]; exact h.fz b hb⟩
  · exact (Below.heap_setCell w' a v k (fun e => hk2 (by rw [e]; exact hu))).trans (h.out k hk hk2)
  · by_cases e : a = b
    · subst e
      rw [hc] at hb
      cases hb
      obtain ⟨v1, c1, _⟩ := h.cell a u hc
      exact ⟨v, World.cell?_setCell_same _ _ _ c1, hv⟩
    · rw [World.cell?_setCell_other _ _ _ _ e]
      exact h.cell b x hb
theorem SpW.toBelow {U : Nat → Prop} {w w' : World} {B : Nat} (h : SpW U w w') (hU : ∀ k, U k → B ≤ k) (hB : B ≤ w.heap.size) : Below B w w' :=
  ⟨h.os, h.tape, h.output, h.size, fun k hk => h.out k (Nat.lt_of_lt_of_le hk hB) (fun hu => by have := hU k hu; omega)⟩
def Sp (U : Nat → Prop) (w : World) : Nat → Array Value → Prop
  | 0, _ => False
  | h + 1, A => ∃ (k : Nat) (b : Bool) (n : Int) (t : ByteArray) (nq : Option Addr) (nl nc : Nat) (iq : Option Addr) (il ic : Nat), A = jA k b n t nq nl nc iq il ic ∧ nl ≤ maxLen ∧ il ≤ maxLen ∧
    (0 < nl → ∃ nb no, nq = some ⟨nb, no, none⟩ ∧ U nb ∧ ∀ i, i < nl → w.frozen? ⟨nb, no + i, none⟩ = false ∧ ∃ s, w.cell? ⟨nb, no + i, none⟩ = some (.string s)) ∧
    (0 < il → ∃ ib io, iq = some ⟨ib, io, none⟩ ∧ U ib ∧ ∀ i, i < il → (∀ j, j < 6 → w.frozen? ⟨ib, io + i * 6 + j, none⟩ = false) ∧ ∃ A', (∀ j, j < 6 → w.cell? ⟨ib, io + i * 6 + j, none⟩ = A'[j]?) ∧ Sp U w h A')
def Nil (q' : Option Addr) (l' c' : Nat) (q : Option Addr) (l c : Nat) : Prop := (q' = q ∧ l' = l ∧ c' = c) ∨ (q' = none ∧ l' = 0 ∧ c' = 0)
theorem nil_of {q : Option Addr} {l c : Nat} {v : Value} (h : SpV (.slice q l c) v) : ∃ q' l' c', v = .slice q' l' c' ∧ Nil q' l' c' q l c := by
  rcases h.of_sl with rfl | rfl
  · exact ⟨_, _, _, rfl, .inl ⟨rfl, rfl, rfl⟩⟩
  · exact ⟨_, _, _, rfl, .inr ⟨rfl, rfl, rfl⟩⟩
theorem six_kept {U : Nat → Prop} {w w' : World} (hw : SpW U w w') {b o k : Nat} {bb : Bool} {n : Int} {t : ByteArray} {nq iq : Option Addr} {nl nc il ic : Nat}
    (h : ∀ j, j < 6 → w.cell? ⟨b, o + j, none⟩ = (jA k bb n t nq nl nc iq il ic)[j]?) :
    ∃ k' bb' n' t' nq' nl' nc' iq' il' ic', (∀ j, j < 6 → w'.cell? ⟨b, o + j, none⟩ = (jA k' bb' n' t' nq' nl' nc' iq' il' ic')[j]?) ∧ Nil nq' nl' nc' nq nl nc ∧ Nil iq' il' ic' iq il ic := by
  obtain ⟨v0, c0, s0⟩ := hw.cell _ _ (h 0 (by omega))
  obtain ⟨v1, c1, s1⟩ := hw.cell _ _ (h 1 (by omega))
  obtain ⟨v2, c2, s2⟩ := hw.cell _ _ (h 2 (by omega))
  obtain ⟨v3, c3, s3⟩ := hw.cell _ _ (h 3 (by omega))
  obtain ⟨v4, c4, s4⟩ := hw.cell _ _ (h 4 (by omega))
  obtain ⟨v5, c5, s5⟩ := hw.cell _ _ (h 5 (by omega))
  obtain ⟨k', rfl⟩ := s0.of_u8
  obtain ⟨b', rfl⟩ := s1.of_bl
  obtain ⟨n', rfl⟩ := s2.of_i64
  obtain ⟨t', rfl⟩ := s3.of_str
  obtain ⟨nq', nl', nc', rfl, hn⟩ := nil_of s4
  obtain ⟨iq', il', ic', rfl, hi⟩ := nil_of s5
  refine ⟨k', b', n', t', nq', nl', nc', iq', il', ic', fun j hj => ?_, hn, hi⟩
  rcases (by omega : j = 0 ∨ j = 1 ∨ j = 2 ∨ j = 3 ∨ j = 4 ∨ j = 5) with rfl | rfl | rfl | rfl | rfl | rfl
  · exact c0
  · exact c1
  · exact c2
  · exact c3
  · exact c4
  · exact c5
theorem sp_keep {U : Nat → Prop} {w w' : World} (hU : ∀ k, U k → k < w.heap.size) (hw : SpW U w w') : ∀ (h k : Nat) (b : Bool) (n : Int) (t : ByteArray) (nq : Option Addr) (nl nc : Nat) (iq : Option Addr) (il ic : Nat), Sp U w h (jA k b n t nq nl nc iq il ic) →
    ∀ (k' : Nat) (b' : Bool) (n' : Int) (t' : ByteArray) (nq' : Option Addr) (nl' nc' : Nat) (iq' : Option Addr) (il' ic' : Nat), Nil nq' nl' nc' nq nl nc → Nil iq' il' ic' iq il ic → Sp U w' h (jA k' b' n' t' nq' nl' nc' iq' il' ic') := by
  intro h
  induction h with
  | zero => intro k b n t nq nl nc iq il ic hs; exact hs.elim
  | succ h ih =>
    intro k b n t nq nl nc iq il ic hs k' b' n' t' nq' nl' nc' iq' il' ic' hn hi
    obtain ⟨k0, b0, n0, t0, nq0, nl0, nc0, iq0, il0, ic0, e, m1, m2, hN, hI⟩ := hs
    unfold jA at e
    simp only [Array.mk.injEq, List.cons.injEq, Value.slice.injEq, and_true] at e
    obtain ⟨_, _, _, _, ⟨rfl, rfl, rfl⟩, rfl, rfl, rfl⟩ := e
    refine ⟨k', b', n', t', nq', nl', nc', iq', il', ic', rfl, ?_, ?_, ?_, ?_⟩
    · rcases hn with ⟨_, rfl, _⟩ | ⟨_, rfl, _⟩
      · exact m1
      · exact Nat.zero_le _
    · rcases hi with ⟨_, rfl, _⟩ | ⟨_, rfl, _⟩
      · exact m2
      · exact Nat.zero_le _
    · intro hp
      rcases hn with ⟨rfl, rfl, _⟩ | ⟨_, rfl, _⟩
      · obtain ⟨nb, no, rfl, hu, hc⟩ := hN hp
        refine ⟨nb, no, rfl, hu, fun i hi => ?_⟩
        obtain ⟨f, s, c⟩ := hc i hi
        obtain ⟨v, c2, s2⟩ := hw.cell _ _ c
        obtain ⟨s', rfl⟩ := s2.of_str
        exact ⟨(hw.fz _ (hU _ hu)).trans f, s', c2⟩
      · omega
    · intro hp
      rcases hi with ⟨rfl, rfl, _⟩ | ⟨_, rfl, _⟩
      · obtain ⟨ib, io, rfl, hu, hc⟩ := hI hp
        refine ⟨ib, io, rfl, hu, fun i hi => ?_⟩
        obtain ⟨f, A', c, hs'⟩ := hc i hi
        refine ⟨fun j hj => (hw.fz _ (hU _ hu)).trans (f j hj), ?_⟩
        obtain ⟨k1, b1, n1, t1, nq1, nl1, nc1, iq1, il1, ic1, rfl⟩ : ∃ k b n t nq nl nc iq il ic, A' = jA k b n t nq nl nc iq il ic := by
          cases h with
          | zero => exact hs'.elim
          | succ h =>
            obtain ⟨k0, b0, n0, t0, nq0, nl0, nc0, iq0, il0, ic0, e, _⟩ := hs'
            exact ⟨_, _, _, _, _, _, _, _, _, _, e⟩
        obtain ⟨k2, b2, n2, t2, nq2, nl2, nc2, iq2, il2, ic2, c2, x1, x2⟩ := six_kept hw c
        exact ⟨_, c2, ih _ _ _ _ _ _ _ _ _ _ hs' _ _ _ _ _ _ _ _ _ _ x1 x2⟩
      · omega
end Go.Proofs.YtcfalgomcdmdhaaDoor
namespace Go.Proofs.YtcfalgomcdmdhaaDoor
open Go.RowKit Go.WideShapes Go.Joins
inductive SpI (U : Nat → Prop) (n : Nat) (w : World) (tv : Value) (wr : World) : Prop where
  | intro (i : Nat) (hi : i ≤ n) (ht : tv = .int .i64 (i : Int)) (hs : SpW U w wr)
set_option maxHeartbeats 4000000 in
set_option maxRecDepth 8000 in
theorem spoil_any (U : Nat → Prop) : ∀ (h : Nat) (A : Array Value) (w : World), (∀ k, U k → k < w.heap.size) → Sp U w h A →
    Calls Tryd.prog 31 #[.agg A] w fun e w' => e = .returned (.tuple #[]) ∧ SpW U w w' := by
  intro h
  induction h with
  | zero => intro A w _ hs; exact hs.elim
  | succ h ih =>
    intro A w hU hs
    obtain ⟨k, b, n, t, nq, nl, nc, iq, il, ic, rfl, m1, m2, hN, hI⟩ := hs
    have b1 := below_new w (.cells (jA k b n t nq nl nc iq il ic) 25)
    have n1 := _root_.Go.heap_alloc_new w (.cells (jA k b n t nq nl nc iq il ic) 25)
    obtain ⟨W1, hW1⟩ : ∃ x, w.alloc (.cells (jA k b n t nq nl nc iq il ic) 25) = x := ⟨_, rfl⟩
    rw [hW1] at b1 n1
    have S1 := SpW.below (U := U) b1
    have hU1 : ∀ k, U k → k < W1.heap.size := fun k hk => Nat.lt_of_lt_of_le (hU k hk) S1.size
    have hlt := heap_lt' n1
    have HB : Hid (∀ wr, SpW U W1 wr → wr.heap[w.heap.size]? = some (.cells (jA k b n t nq nl nc iq il ic) 25 (0, 0))) := fun wr hr => (hr.out _ hlt (fun hu => by have := hU _ hu; omega)).trans n1
    have HU : Hid ((∀ k, U k → k < W1.heap.size) ∧ SpW U w W1) := ⟨hU1, S1⟩
    have HIH : Hid (∀ (A : Array Value) (w : World), (∀ k, U k → k < w.heap.size) → Sp U w h A → Calls Tryd.prog 31 #[.agg A] w fun e w' => e = .returned (.tuple #[]) ∧ SpW U w w') := ih
    have HN : Hid (0 < nl → ∃ nb no, nq = some ⟨nb, no, none⟩ ∧ U nb ∧ ∀ i, i < nl → W1.frozen? ⟨nb, no + i, none⟩ = false ∧ ∃ s, W1.cell? ⟨nb, no + i, none⟩ = some (.string s)) := fun hp => by
      obtain ⟨nb, no, e, hu, hc⟩ := hN hp
      exact ⟨nb, no, e, hu, fun i hi => ⟨(S1.fz _ (hU _ hu)).trans (hc i hi).1, by obtain ⟨_, s, c⟩ := hc i hi; exact ⟨s, below_cell c b1⟩⟩⟩
    have HI : Hid (0 < il → ∃ ib io, iq = some ⟨ib, io, none⟩ ∧ U ib ∧ ∀ i, i < il → (∀ j, j < 6 → W1.frozen? ⟨ib, io + i * 6 + j, none⟩ = false) ∧
        ∃ k b n t nq nl nc iq il ic, (∀ j, j < 6 → W1.cell? ⟨ib, io + i * 6 + j, none⟩ = (jA k b n t nq nl nc iq il ic)[j]?) ∧ Sp U W1 h (jA k b n t nq nl nc iq il ic)) := fun hp => by
      obtain ⟨ib, io, e, hu, hc⟩ := hI hp
      refine ⟨ib, io, e, hu, fun i hi => ?_⟩
      obtain ⟨f, A', c, hs'⟩ := hc i hi
      refine ⟨fun j hj => (S1.fz _ (hU _ hu)).trans (f j hj), ?_⟩
      obtain ⟨k1, b1, n1, t1, nq1, nl1, nc1, iq1, il1, ic1, rfl⟩ : ∃ k b n t nq nl nc iq il ic, A' = jA k b n t nq nl nc iq il ic := by
        cases h with
        | zero => exact hs'.elim
        | succ h =>
          obtain ⟨k0, b0, n0, t0, nq0, nl0, nc0, iq0, il0, ic0, e, _⟩ := hs'
          exact ⟨_, _, _, _, _, _, _, _, _, _, e⟩
      obtain ⟨k2, b2, n2, t2, nq2, nl2, nc2, iq2, il2, ic2, c2, x1, x2⟩ := six_kept S1 c
      exact ⟨_, _, _, _, _, _, _, _, _, _, c2, sp_keep hU S1 _ _ _ _ _ _ _ _ _ _ _ hs' _ _ _ _ _ _ _ _ _ _ x1 x2⟩
    have hm1 : (nl : Int) ≤ 9223372036854775807 := by unfold maxLen at m1; omega
    have hm2 : (il : Int) ≤ 9223372036854775807 := by unfold maxLen at m2; omega
    have HW : Hid (_ = W1) := hW1
    unfold jA at HW HB ⊢
    clear b1 n1 S1 hU1 hlt hU hN hI ih m1 m2 hW1
    go_enter Tryd.func31, Tryd.ntmps31
    go_upto_region 1 with fail
    rw [HW.out]
    go_wp2_with fail
    go_loopw [2] (fun t' wr => SpI U nl W1 t' wr) (fun t _ => nl - (intOf t).toNat)
    case atStart => exact ⟨0, Nat.zero_le _, rfl, SpW.refl _ _⟩
    case round =>
      obtain ⟨i, hi, rfl, hs⟩ := hrel
      have G1 := HB.out wr hs
      obtain ⟨⟨r0, r1, r2, r3, r4, r5⟩, _, _, _, _, _, _⟩ := row6_cells G1
      have hi0 : (0 : Int) ≤ (i : Int) := by omega
      by_cases hlt : i < nl
      · have hiI : (i : Int) < (nl : Int) := by omega
        obtain ⟨nb, no, rfl, hu, hc⟩ := HN.out (by omega)
        obtain ⟨f, s, c⟩ := hc i hlt
        obtain ⟨v, c2, s2⟩ := hs.cell _ _ c
        have f2 := (hs.fz ⟨nb, no + i, none⟩ (HU.out.1 _ hu)).trans f
        obtain ⟨s', rfl⟩ := s2.of_str
        have HS : Hid (SpW U W1 (wr.setCell ⟨nb, no + i, none⟩ (.string ⟨#[55, 55]⟩)) ∧ i < nl) := ⟨hs.set1 hu c (.str _ _), hlt⟩
        clear hs hc hu f c hlt hi G1 s2
        go_wp2_with fail
        go_roundw
        case rel => exact ⟨i + 1, HS.out.2, by go_num, HS.out.1⟩
        case measure => have := HS.out.2; simp [intOf]; omega
      · obtain rfl : i = nl := by omega
        have HS : Hid (SpW U W1 wr) := hs
        clear hs hi hlt G1
        go_wp2_with fail
        clear r0 r1 r2 r3 r4 r5
        go_loopw [3] (fun t' wr => SpI U il W1 t' wr) (fun t _ => il - (intOf t).toNat)
        case atStart => exact ⟨0, Nat.zero_le _, rfl, HS.out⟩
        case round =>
          clear HS
          obtain ⟨j, hj, rfl, hs⟩ := hrel
          have G1 := HB.out wr hs
          obtain ⟨⟨r0, r1, r2, r3, r4, r5⟩, _, _, _, _, _, _⟩ := row6_cells G1
          have hj0 : (0 : Int) ≤ (j : Int) := by omega
          by_cases hlt : j < il
          · have hjI : (j : Int) < (il : Int) := by omega
            obtain ⟨ib, io, rfl, hu, hc⟩ := HI.out (by omega)
            obtain ⟨f, k1, b1, n1, t1, nq1, nl1, nc1, iq1, il1, ic1, c, hsp⟩ := hc j hlt
            obtain ⟨k2, b2, n2, t2, nq2, nl2, nc2, iq2, il2, ic2, c2, x1, x2⟩ := six_kept hs c
            have hsp2 := sp_keep HU.out.1 hs _ _ _ _ _ _ _ _ _ _ _ hsp k2 b2 n2 t2 _ _ _ _ _ _ x1 x2
            have CX := HIH.out _ wr (fun k hk => Nat.lt_of_lt_of_le (HU.out.1 k hk) hs.size) hsp2
            obtain ⟨z0, z1, z2, z3, z4, z5⟩ := jat_of c2
            have HS : Hid (SpW U W1 wr ∧ U ib ∧ (∀ j', j' < 6 → W1.frozen? ⟨ib, io + j * 6 + j', none⟩ = false) ∧ (∀ j', j' < 6 → W1.cell? ⟨ib, io + j * 6 + j', none⟩ = (jA k1 b1 n1 t1 nq1 nl1 nc1 iq1 il1 ic1)[j']?) ∧ j < il) := ⟨hs, hu, f, c, hlt⟩
            unfold jA at CX
            clear hs hc hu f c hsp x1 x2 hsp2 hlt hj G1 c2
            go_wp2_with fail
            refine CX.mono ?_
            rintro e w2 ⟨rfl, h2⟩
            have hs2 := HS.out.1.trans h2
            have G2 := HB.out w2 hs2
            clear CX r0 r1 r2 r3 r4 r5 z0 z1 z2 z3 z4 z5
            obtain ⟨⟨r0, r1, r2, r3, r4, r5⟩, _, _, _, _, _, _⟩ := row6_cells G2
            obtain ⟨k3, b3, n3, t3, nq3, nl3, nc3, iq3, il3, ic3, c3, _, _⟩ := six_kept hs2 HS.out.2.2.2.1
            obtain ⟨z0, z1, z2, z3, z4, z5⟩ := jat_of c3
            have hf : ∀ j', j' < 6 → w2.frozen? ⟨ib, io + j * 6 + j', none⟩ = false := fun j' hj' => (hs2.fz ⟨ib, _, none⟩ (HU.out.1 _ HS.out.2.1)).trans (HS.out.2.2.1 j' hj')
            have f0 := hf 0 (by omega)
            have f1 := hf 1 (by omega)
            have f2 := hf 2 (by omega)
            have f3 := hf 3 (by omega)
            have f4 := hf 4 (by omega)
            have f5 := hf 5 (by omega)
            have HF : Hid (SpW U W1 ((((((w2.setCell ⟨ib, io + j * 6, none⟩ (.int .u8 77)).setCell ⟨ib, io + j * 6 + 1, none⟩ (.bool false)).setCell ⟨ib, io + j * 6 + 2, none⟩ (.int .i64 0)).setCell ⟨ib, io + j * 6 + 3, none⟩ (.string ⟨#[]⟩)).setCell ⟨ib, io + j * 6 + 4, none⟩ (.slice none 0 0)).setCell ⟨ib, io + j * 6 + 5, none⟩ (.slice none 0 0))) := by
              have hu := HS.out.2.1
              have c := HS.out.2.2.2.1
              exact (((((hs2.set1 hu (c 0 (by omega)) (.u8 _ 77)).set1 hu (c 1 (by omega)) (.bl _ _)).set1 hu (c 2 (by omega)) (.i64 _ _)).set1 hu (c 3 (by omega)) (.str _ _)).set1 hu (c 4 (by omega)) (.nil _ _ _)).set1 hu (c 5 (by omega)) (.nil _ _ _)
            simp only [Nat.add_zero] at f0
            clear c3 hf h2 hs2 G2
            go_wp2_with fail
            go_roundw
            case rel => exact ⟨j + 1, HS.out.2.2.2.2, by go_num, HF.out⟩
            case measure => have := HS.out.2.2.2.2; simp [intOf]; omega
          · obtain rfl : j = il := by omega
            have HS : Hid (SpW U W1 wr) := hs
            clear hs hj hlt G1
            go_wp2_with fail
            go_end0
            exact ⟨rfl, HU.out.2.trans HS.out⟩
end Go.Proofs.YtcfalgomcdmdhaaDoor
namespace Go.Proofs.YtcfalgomcdmdhaaDoor
open Go.RowKit Go.WideShapes Go.Joins
theorem sp_of_fr {w : World} {B : Nat} {A : Array Value} {x : JB} (hJ : JIn w (Fr B w) A x) : ∀ f, x.ht ≤ f → Sp (fun k => B ≤ k ∧ k < w.heap.size) w f A := by
  have hL := hJ.lt
  clear hJ
  induction hL with
  | mk k b n t ns vs nq iq nc ic F hk hn hnc hic hnm him hnq hiq hN hI hR ih =>
    intro f hf
    cases f with
    | zero => simp only [JB.ht] at hf; omega
    | succ f =>
      refine ⟨k, b, n, t, nq, ns.length, nc, iq, vs.length, ic, rfl, Nat.le_trans hnc hnm, Nat.le_trans hic him, fun hp => ?_, fun hp => ?_⟩
      · obtain ⟨nb, no, rfl⟩ := hN.addr hp
        obtain ⟨b', o', e, z, _⟩ := hN hp
        cases e
        exact ⟨nb, no, rfl, ⟨z.1.1, z.2⟩, fun i hi => ⟨z.1.2 _, _, hN.at hi⟩⟩
      · obtain ⟨ib, io, rfl⟩ := hI.addr hp
        obtain ⟨b', o', e, z, _⟩ := hI hp
        cases e
        refine ⟨ib, io, rfl, ⟨z.1.1, z.2⟩, fun i hi => ⟨fun j _ => z.1.2 _, F i, (hI.at hi).2, ?_⟩⟩
        have hx := List.getElem?_eq_getElem hi
        exact ih i _ hx f (by simp only [JB.ht] at hf; have := ht_at hx; omega)
end Go.Proofs.YtcfalgomcdmdhaaDoor
