/-
  Contracts of the calls checkSector, Sure and Read.
-/
import Derived.WalkKit
import Derived.WideShapes
import Derived.Deep.RegionHeld3
import Derived.Test.YthifpelappedcaaGreatDoorJ09
import Derived.Laws.ResultCell
import Derived.Deep.Cut
namespace Go.Proofs.YthifpelappedcaaGreatDoor
open Go.RowKit Go.WideShapes Go

section
variable {P : Program} {ops : Array Oper} {Q : Exit → Act → World → Prop} {md : Region.Mode} {T S : World → Prop} {z : Nat}

/-- Whatever order is picked from here on, and T holds behind every operation, S as long as number z has not come up. -/
def wpAnyZ (P : Program) (md : Region.Mode) (ops : Array Oper) (Q : Exit → Act → World → Prop) (T S : World → Prop) (z : Nat) : Nat → Array Bool → Act → World → Prop
  | 0, listed, a, w => Region.ready md ops listed = [] ∧ Q .normal a w
  | fuel + 1, listed, a, w =>
    (Region.ready md ops listed = [] → Q .normal a w) ∧
    ∀ i ∈ Region.ready md ops listed, wpOp P ops Q i (fun a' w' => (T w' ∧ ((listed.setIfInBounds i true)[z]?.getD false = false → S w')) ∧ wpAnyZ P md ops Q T S z fuel (listed.setIfInBounds i true) a' w') a w
theorem wpAny_of_Z : ∀ (fuel : Nat) (listed : Array Bool) (a : Act) (w : World), wpAnyZ P md ops Q T S z fuel listed a w → wpAny P md ops Q fuel listed a w
  | 0, _, _, _, h => h
  | fuel + 1, _, _, _, h => ⟨h.1, fun i hi => wpOp_mono (fun a' w' h' => wpAny_of_Z fuel _ a' w' h'.2) (h.2 i hi)⟩
theorem set_ne {listed : Array Bool} {i z : Nat} (h : i ≠ z) : (listed.setIfInBounds i true)[z]?.getD false = listed[z]?.getD false := by
  rw [Array.getElem?_setIfInBounds_ne h]
/-- z waits for m, which waits for i. -/
structure Waits (md : Region.Mode) (ops : Array Oper) (z m i : Nat) : Prop where
  zm : ∃ oz, ops[z]? = some oz ∧ ∃ e ∈ oz.after, Region.binds md e = true ∧ e.on = m
  mi : ∃ om, ops[m]? = some om ∧ ∃ e ∈ om.after, Region.binds md e = true ∧ e.on = i
theorem not_ready {z m : Nat} {listed : Array Bool} (h : ∃ oz, ops[z]? = some oz ∧ ∃ e ∈ oz.after, Region.binds md e = true ∧ e.on = m) (hm : listed[m]?.getD false = false) : z ∉ Region.ready md ops listed := by
  intro hz
  obtain ⟨_, oj, hoj, hall⟩ := mem_ready.1 hz
  obtain ⟨oz, h1, e, he, hb, hon⟩ := h
  rw [hoj] at h1
  simp only [Option.some.injEq] at h1
  subst h1
  have h1 := hall e he hb
  rw [hon] at h1
  rcases Nat.lt_or_ge m listed.size with h' | h'
  · simp [h'] at hm h1; rw [hm] at h1; cases h1
  · simp [Array.getElem?_eq_none h'] at h1
theorem wpAnyZ_first {i m : Nat} {oi : Oper} {v : Value} (hi : ops[i]? = some oi) (hsel : ∀ (j : Nat) (o : Oper) cs b, ops[j]? = some o → o.op ≠ .select cs b)
    (hQ : ∀ c a w, Q (.panic c) (a.put oi.dst v) w → Q (.panic c) a w) (hzi : i ≠ z) (hwt : Waits md ops z m i) :
    ∀ (fuel : Nat) (listed : Array Bool) (a : Act) (w : World),
      (∀ j oj, ops[j]? = some oj → j ≠ i → listed.getD j true = false → (∀ e ∈ oj.after, Region.binds md e = true → e.on ≠ i) → oi.apart ops oj = true) →
      i ∈ Region.ready md ops listed → listed[m]?.getD false = false → listed[z]?.getD false = false → YieldsIf P ops (fun w => T w ∧ S w) oi v a → T w ∧ S w →
      wpAnyZ P md ops Q T S z fuel (listed.setIfInBounds i true) (a.put oi.dst v) w → wpAnyZ P md ops Q T S z (fuel + 1) listed a w := by
  intro fuel
  induction fuel with
  | zero =>
    intro listed a w _ hr _ _ hy hS H
    refine ⟨fun h => (by rw [h] at hr; cases hr), fun j hj => ?_⟩
    by_cases hji : j = i
    · subst hji; exact hy.wpOp hi hS ⟨⟨hS.1, fun _ => hS.2⟩, H⟩
    · have := ready_mono hj hji
      rw [H.1] at this
      cases this
  | succ fuel ih =>
    intro listed a w hfree hr hm hz hy hS H
    refine ⟨fun h => (by rw [h] at hr; cases hr), fun j hj => ?_⟩
    by_cases hji : j = i
    · subst hji; exact hy.wpOp hi hS ⟨⟨hS.1, fun _ => hS.2⟩, H⟩
    · have hjz : j ≠ z := by
        rintro rfl
        exact not_ready hwt.zm hm hj
      have hiun : listed[i]?.getD false = false := by
        have h0 := (mem_ready.1 hr).1
        rcases Nat.lt_or_ge i listed.size with h' | h'
        · simpa [h'] using h0
        · simp [Array.getElem?_eq_none h']
      have hjm : j ≠ m := by
        rintro rfl
        exact not_ready hwt.mi hiun hj
      have h1 := H.2 j (ready_mono hj hji)
      obtain ⟨hjun, oj, hoj, hall⟩ := mem_ready.1 hj
      have hnot : ∀ e ∈ oj.after, Region.binds md e = true → e.on ≠ i := fun e he hb heq => by
        have h1 := hall e he hb
        have h0 := (mem_ready.1 hr).1
        rw [heq] at h1
        rcases Nat.lt_or_ge i listed.size with h' | h'
        · simp [h'] at h0 h1; rw [h0] at h1; cases h1
        · simp [Array.getElem?_eq_none h'] at h1
      have h2 := wpOp_putIf hoj (hfree j oj hoj hji hjun hnot) (fun cs b => hsel i oi cs b hi) (fun cs b => hsel j oj cs b hoj) hQ hy h1
      have hfree' : ∀ k ok, ops[k]? = some ok → k ≠ i → (listed.setIfInBounds j true).getD k true = false →
          (∀ e ∈ ok.after, Region.binds md e = true → e.on ≠ i) → oi.apart ops ok = true := fun k ok hk hki hun hno => by
        refine hfree k ok hk hki ?_ hno
        by_cases hjk : j = k
        · subst hjk; exact hjun
        · rw [getD_set_ne true hjk] at hun; exact hun
      have hm' : (listed.setIfInBounds j true)[m]?.getD false = false := by
        rw [Array.getElem?_setIfInBounds_ne hjm]; exact hm
      refine wpOp_mono (fun a' w' h3 => ⟨⟨h3.2.1.1, fun _ => h3.2.1.2 (by rw [set_ne hjz, set_ne hzi]; exact hz)⟩, ih (listed.setIfInBounds j true) a' w' hfree' (ready_mono hr (Ne.symm hji)) hm' (by rw [set_ne hjz]; exact hz) h3.1 ⟨h3.2.1.1, h3.2.1.2 (by rw [set_ne hjz, set_ne hzi]; exact hz)⟩ ?_⟩) h2
      rw [Array.setIfInBounds_comm _ _ hji]
      exact h3.2.2
/-- The same, of an operation that T alone serves. -/
theorem wpAnyT_first {i : Nat} {oi : Oper} {v : Value} (hi : ops[i]? = some oi) (hsel : ∀ (j : Nat) (o : Oper) cs b, ops[j]? = some o → o.op ≠ .select cs b)
    (hQ : ∀ c a w, Q (.panic c) (a.put oi.dst v) w → Q (.panic c) a w) (hzi : i ≠ z) :
    ∀ (fuel : Nat) (listed : Array Bool) (a : Act) (w : World),
      (∀ j oj, ops[j]? = some oj → j ≠ i → listed.getD j true = false → (∀ e ∈ oj.after, Region.binds md e = true → e.on ≠ i) → oi.apart ops oj = true) →
      i ∈ Region.ready md ops listed → YieldsIf P ops T oi v a → T w → (listed[z]?.getD false = false → S w) →
      wpAnyZ P md ops Q T S z fuel (listed.setIfInBounds i true) (a.put oi.dst v) w → wpAnyZ P md ops Q T S z (fuel + 1) listed a w := by
  intro fuel
  induction fuel with
  | zero =>
    intro listed a w _ hr hy hT hS H
    refine ⟨fun h => (by rw [h] at hr; cases hr), fun j hj => ?_⟩
    by_cases hji : j = i
    · subst hji; exact hy.wpOp hi hT ⟨⟨hT, fun h => hS (by rw [set_ne hzi] at h; exact h)⟩, H⟩
    · have := ready_mono hj hji
      rw [H.1] at this
      cases this
  | succ fuel ih =>
    intro listed a w hfree hr hy hT hS H
    refine ⟨fun h => (by rw [h] at hr; cases hr), fun j hj => ?_⟩
    by_cases hji : j = i
    · subst hji; exact hy.wpOp hi hT ⟨⟨hT, fun h => hS (by rw [set_ne hzi] at h; exact h)⟩, H⟩
    · have h1 := H.2 j (ready_mono hj hji)
      obtain ⟨hjun, oj, hoj, hall⟩ := mem_ready.1 hj
      have hnot : ∀ e ∈ oj.after, Region.binds md e = true → e.on ≠ i := fun e he hb heq => by
        have h1 := hall e he hb
        have h0 := (mem_ready.1 hr).1
        rw [heq] at h1
        rcases Nat.lt_or_ge i listed.size with h' | h'
        · simp [h'] at h0 h1; rw [h0] at h1; cases h1
        · simp [Array.getElem?_eq_none h'] at h1
      have h2 := wpOp_putIf hoj (hfree j oj hoj hji hjun hnot) (fun cs b => hsel i oi cs b hi) (fun cs b => hsel j oj cs b hoj) hQ hy h1
      have hfree' : ∀ k ok, ops[k]? = some ok → k ≠ i → (listed.setIfInBounds j true).getD k true = false →
          (∀ e ∈ ok.after, Region.binds md e = true → e.on ≠ i) → oi.apart ops ok = true := fun k ok hk hki hun hno => by
        refine hfree k ok hk hki ?_ hno
        by_cases hjk : j = k
        · subst hjk; exact hjun
        · rw [getD_set_ne true hjk] at hun; exact hun
      refine wpOp_mono (fun a' w' h3 => ⟨⟨h3.2.1.1, fun h => h3.2.1.2 (by rw [Array.setIfInBounds_comm _ _ (Ne.symm hji), set_ne hzi]; exact h)⟩, ih (listed.setIfInBounds j true) a' w' hfree' (ready_mono hr (Ne.symm hji)) h3.1 h3.2.1.1 (fun h => h3.2.1.2 (by rw [Array.setIfInBounds_comm _ _ (Ne.symm hji), set_ne hzi]; exact h)) ?_⟩) h2
      rw [Array.setIfInBounds_comm _ _ hji]
      exact h3.2.2
/-- Is it so that z waits for m, and m for i? -/
def waitsB (md : Region.Mode) (ops : Array Oper) (z m i : Nat) : Bool :=
  (match ops[z]? with | some oz => oz.after.any (fun e => Region.binds md e && e.on == m) | none => false) && (match ops[m]? with | some om => om.after.any (fun e => Region.binds md e && e.on == i) | none => false)
theorem waits_of {z m i : Nat} (h : waitsB md ops z m i = true) : Waits md ops z m i := by
  unfold waitsB at h
  simp only [Bool.and_eq_true] at h
  constructor
  · have h1 := h.1
    cases e : ops[z]? with
    | none => simp [e] at h1
    | some oz =>
      simp only [e, Array.any_eq_true', Bool.and_eq_true, beq_iff_eq] at h1
      obtain ⟨x, hx, hb, hon⟩ := h1
      exact ⟨oz, rfl, x, hx, hb, hon⟩
  · have h1 := h.2
    cases e : ops[m]? with
    | none => simp [e] at h1
    | some oz =>
      simp only [e, Array.any_eq_true', Bool.and_eq_true, beq_iff_eq] at h1
      obtain ⟨x, hx, hb, hon⟩ := h1
      exact ⟨oz, rfl, x, hx, hb, hon⟩
/-- Number i is taken first; its slot is d: it waits for nothing that z turns. -/
theorem takeZ (i d m : Nat) {oi : Oper} {v : Value} {fuel : Nat} {listed : Array Bool} {a : Act} {w : World} (hi : ops[i]? = some oi) (hd : oi.dst = some d)
    (hs : Region.noSelect ops = true) (hf : Region.free md ops listed i = true) (hr : (Region.ready md ops listed).contains i = true) (hzi : (i != z) = true) (hwt : waitsB md ops z m i = true) (hm : (listed[m]?.getD false) = false) (hz : (listed[z]?.getD false) = false)
    (hQ : ∀ c a w, Q (.panic c) (a.put oi.dst v) w → Q (.panic c) a w) (hw : Region.wanted oi (yielded ops a.tmps) = true) (hy : ∀ w, T w → S w → (execOp a.eval oi).run P w = .ok (.value v) w) (hT : T w) (hS : S w)
    (h : wpAnyZ P md ops Q T S z fuel (listed.setIfInBounds i true) (a.put (some d) v) w) : wpAnyZ P md ops Q T S z (fuel + 1) listed a w :=
  wpAnyZ_first hi (Region.noSelect_spec hs) hQ (by simpa using hzi) (waits_of hwt) fuel listed a w (Region.free_spec hi hf) (by simpa using hr) hm hz (Or.inl ⟨hw, fun w h => hy w h.1 h.2⟩) ⟨hT, hS⟩ (by rw [hd]; exact h)
theorem takeT (i d : Nat) {oi : Oper} {v : Value} {fuel : Nat} {listed : Array Bool} {a : Act} {w : World} (hi : ops[i]? = some oi) (hd : oi.dst = some d)
    (hs : Region.noSelect ops = true) (hf : Region.free md ops listed i = true) (hr : (Region.ready md ops listed).contains i = true) (hzi : (i != z) = true)
    (hQ : ∀ c a w, Q (.panic c) (a.put oi.dst v) w → Q (.panic c) a w) (hw : Region.wanted oi (yielded ops a.tmps) = true) (hy : ∀ w, T w → (execOp a.eval oi).run P w = .ok (.value v) w) (hT : T w) (hS : S w)
    (h : wpAnyZ P md ops Q T S z fuel (listed.setIfInBounds i true) (a.put (some d) v) w) : wpAnyZ P md ops Q T S z (fuel + 1) listed a w :=
  wpAnyT_first hi (Region.noSelect_spec hs) hQ (by simpa using hzi) fuel listed a w (Region.free_spec hi hf) (by simpa using hr) (Or.inl ⟨hw, hy⟩) hT (fun _ => hS) (by rw [hd]; exact h)
/-- One operation alone may come up, and is carried out. -/
theorem oneZ (i : Nat) {o : Oper} {fuel : Nat} {listed : Array Bool} {a : Act} {w : World} (hr : Region.ready md ops listed = [i]) (ho : ops[i]? = some o) (hzi : (i != z) = true)
    (h : ∀ K' : Act → World → Prop, Shut (∀ a w, T w → S w → (T w → S w → wpAnyZ P md ops Q T S z fuel (listed.setIfInBounds i true) a w) → K' a w) → if Region.wanted o (yielded ops a.tmps) = true then Oper.wp P o a w K' Q else K' (a.put o.dst undef) w) : wpAnyZ P md ops Q T S z (fuel + 1) listed a w := by
  refine ⟨fun h0 => (by rw [hr] at h0; cases h0), fun j hj => ?_⟩
  rw [hr] at hj
  obtain rfl : j = i := by simpa using hj
  exact wpOp_step ho (fun K' hK => h K' (fun a w hT hS hW => hK a w ⟨⟨hT, fun _ => hS⟩, hW hT hS⟩))
/-- The last one, number z. -/
theorem lastZ {o : Oper} {fuel : Nat} {listed : Array Bool} {a : Act} {w : World} (hr : Region.ready md ops listed = [z]) (ho : ops[z]? = some o) (hl : (listed[z]?).isSome = true)
    (h : ∀ K' : Act → World → Prop, Shut (∀ a w, T w → wpAnyZ P md ops Q T S z fuel (listed.setIfInBounds z true) a w → K' a w) → if Region.wanted o (yielded ops a.tmps) = true then Oper.wp P o a w K' Q else K' (a.put o.dst undef) w) : wpAnyZ P md ops Q T S z (fuel + 1) listed a w := by
  refine ⟨fun h0 => (by rw [hr] at h0; cases h0), fun j hj => ?_⟩
  rw [hr] at hj
  obtain rfl : j = z := by simpa using hj
  refine wpOp_step ho (fun K' hK => h K' (fun a w hT hW => hK a w ⟨⟨hT, fun h => ?_⟩, hW⟩))
  rw [Array.getElem?_setIfInBounds_self] at h
  simp only [Option.isSome_iff_exists] at hl
  obtain ⟨x, hx⟩ := hl
  have hlt : j < listed.size := (Array.getElem?_eq_some_iff.1 hx).1
  simp [hlt] at h
theorem doneZ {listed : Array Bool} {a : Act} {w : World} (hr : Region.ready md ops listed = []) (h : Q .normal a w) : ∀ fuel, wpAnyZ P md ops Q T S z fuel listed a w
  | 0 => ⟨hr, h⟩
  | _ + 1 => ⟨fun _ => h, by rw [hr]; simp⟩
theorem beginZ (z : Nat) {id : Nat} {a : Act} {w : World} (hm : P.follows .mixedOrders = true)
    (h : wpAnyZ P .any ops Q T S z ops.size (Array.replicate ops.size false) a w.drew) : (Code.region id ops true).wp P Q a w :=
  wp_region_any hm (wpAny_of_Z _ _ _ _ h)
/-- make([]T, n) as one step of such a statement. -/
theorem step_make {o : Oper} {a : Act} {w : World} {K : Act → World → Prop} {E : Prop} (hgd : o.guard = none) (l c : Operand) (t : TypeId) (hop : o.op = Op.makeSlice t l c)
    (base : Nat) (e : TypeId) (i : TypeInfo) (z : Value) (size : Nat) (h1 : P.underlying t = some (.slice e)) (h2 : P.info? e = some i) (h3 : i.zero = some z) (h4 : i.size = size)
    (kl kc : IntKind) (L C : Int) (n : Nat) (hl : a.eval l = .int kl L) (hc : a.eval c = .int kc C) (hL : L = (n : Int)) (hC : C = (n : Int)) (b2 : i.bytes * n ≤ 281474976710656) (b3 : n ≤ maxLen) (b4 : base ≤ w.heap.size)
    (hK : ∀ w', w'.ownsRow base e size (.slice (some ⟨w.heap.size, 0, none⟩) n n) n (madeCells z.cells (n * size)).toList → w.grownBy w' none → K (a.put o.dst (.slice (some ⟨w.heap.size, 0, none⟩) n n)) w') :
    if Region.wanted o (yielded ops a.tmps) = true then Oper.wp P o a w K Q else E := by
  have hw : Region.wanted o (yielded ops a.tmps) = true := by simp [Region.wanted, hgd]
  rw [if_pos hw]
  obtain ⟨w', hrun, r1, r2⟩ := run_make_full (P := P) w base t e i z size h1 h2 h3 h4 kl kc n b2 b3 b4
  subst hL
  subst hC
  unfold Oper.wp
  simp [execOp, hop, hl, hc, hrun, Result.andThen]
  exact hK w' r1 r2
end
end Go.Proofs.YthifpelappedcaaGreatDoor
namespace Go.Proofs.YthifpelappedcaaGreatDoor
set_option maxRecDepth 8000
open Go.RowKit Go.WideShapes
attribute [local go_sem ↓] Go.wp_at_zero Go.wp_at_succ

set_option maxHeartbeats 2000000 in
theorem wait_range (base B0 gd : Nat) (count : Int) (data : List Nat) (q : Option Addr) (m : Nat) (ws : Puts) (gs : List Nat) (s : Int) (pv : Value) (w : World) (hd : DiskOwn w base B0 gd count data q m ws gs) (hs : ¬ (0 ≤ s ∧ s < count)) :
    Calls Tryz.prog 54 #[.pointer (some ⟨B0, 0, none⟩), .agg #[.int .i64 s, pv]] w fun e w' => e = .returned (.int .i64 21) ∧ Below w.heap.size w w' := by
  have hlt := lt_heap hd.box
  obtain ⟨hc0, hc1, hc2⟩ := (hd.below (below_alloc w (.cells #[.int .i64 s, pv] 45))).cells
  obtain ⟨hp0, hp1⟩ := put_cells (Below.refl _ (w.alloc (.cells #[.int .i64 s, pv] 45)))
  have hb1 := below_alloc w (.cells #[.int .i64 s, pv] 45)
  clear hd
  go_enter Tryz.func54, Tryz.ntmps54
  go_wp2
  obtain ⟨w1, hw1⟩ : ∃ w1, w1 = w.alloc (.cells #[.int .i64 s, pv] 45) := ⟨_, rfl⟩
  rw [← hw1] at hc0 hc1 hc2 hp0 hp1 hb1 ⊢
  have hsz : w.heap.size < w1.heap.size := by rw [hw1]; simp
  clear hw1
  go_region_held3 (fun w' => w'.cell? ⟨B0, 0, none⟩ = some (.int .i64 count) ∧ w'.cell? ⟨B0, 1, none⟩ = some (.slice (some ⟨gd, 0, none⟩) data.length data.length) ∧ w'.cell? ⟨B0, 2, none⟩ = some (.slice q ws.length m) ∧ w'.cell? ⟨w.heap.size, 0, none⟩ = some (.int .i64 s)) (go_keep)
    (first
      | (go_at_call 102; refine (has_any count s _ _ _).mono ?_; rintro e w2 ⟨rfl, ob, rfl⟩; rw [decide_eq_false hs])
      | fail)
  go_wp2
  go_ret
  exact ⟨rfl, (hb1.drew).alloc (by show _ ≤ w1.heap.size; omega) _⟩
set_option maxHeartbeats 2000000 in
theorem wait_bad (base B0 gd : Nat) (count : Int) (data : List Nat) (q : Option Addr) (m : Nat) (ws : Puts) (gs : List Nat) (s : Int) (pk : Option Addr) (ck : Nat) (xs : List Nat) (w : World) (hd : DiskOwn w base B0 gd count data q m ws gs) (hs : 0 ≤ s ∧ s < count) (hx : xs.length ≠ 128) :
    Calls Tryz.prog 54 #[.pointer (some ⟨B0, 0, none⟩), .agg #[.int .i64 s, .slice pk xs.length ck]] w fun e w' => e = .returned (.int .i64 8) ∧ Below w.heap.size w w' := by
  have hlt := lt_heap hd.box
  obtain ⟨hc0, hc1, hc2⟩ := (hd.below (below_alloc w (.cells #[.int .i64 s, .slice pk xs.length ck] 45))).cells
  obtain ⟨hp0, hp1⟩ := put_cells (Below.refl _ (w.alloc (.cells #[.int .i64 s, .slice pk xs.length ck] 45)))
  have hb1 := below_alloc w (.cells #[.int .i64 s, .slice pk xs.length ck] 45)
  clear hd
  have hxb : ((xs.length : Int) != 128) = true := by simp; omega
  clear hx
  go_enter Tryz.func54, Tryz.ntmps54
  go_wp2
  obtain ⟨w1, hw1⟩ : ∃ w1, w1 = w.alloc (.cells #[.int .i64 s, .slice pk xs.length ck] 45) := ⟨_, rfl⟩
  rw [← hw1] at hc0 hc1 hc2 hp0 hp1 hb1 ⊢
  have hsz : w.heap.size < w1.heap.size := by rw [hw1]; simp
  clear hw1
  go_region_held3 (fun w' => w'.cell? ⟨B0, 0, none⟩ = some (.int .i64 count) ∧ w'.cell? ⟨B0, 1, none⟩ = some (.slice (some ⟨gd, 0, none⟩) data.length data.length) ∧ w'.cell? ⟨B0, 2, none⟩ = some (.slice q ws.length m) ∧ w'.cell? ⟨w.heap.size, 0, none⟩ = some (.int .i64 s)) (go_keep)
    (first
      | (go_at_call 102; refine (has_any count s _ _ _).mono ?_; rintro e w2 ⟨rfl, ob, rfl⟩; rw [decide_eq_true hs])
      | fail)
  go_wp2
  go_ret
  exact ⟨rfl, (hb1.drew).alloc (by show _ ≤ w1.heap.size; omega) _⟩
set_option maxRecDepth 100000 in
set_option maxHeartbeats 2000000 in
theorem wait_many (base B0 gd : Nat) (count : Int) (data : List Nat) (q : Option Addr) (m : Nat) (ws : Puts) (gs : List Nat) (s : Int) (pk : Option Addr) (ck : Nat) (w : World) (hd : DiskOwn w base B0 gd count data q m ws gs) (hs : 0 ≤ s ∧ s < count) (hm : 4096 ≤ ws.length) :
    Calls Tryz.prog 54 #[.pointer (some ⟨B0, 0, none⟩), .agg #[.int .i64 s, .slice pk 128 ck]] w fun e w' => e = .returned (.int .i64 4) ∧ Below w.heap.size w w' := by
  have hlt := lt_heap hd.box
  obtain ⟨hc0, hc1, hc2⟩ := (hd.below (below_alloc w (.cells #[.int .i64 s, .slice pk 128 ck] 45))).cells
  obtain ⟨hp0, hp1⟩ := put_cells (Below.refl _ (w.alloc (.cells #[.int .i64 s, .slice pk 128 ck] 45)))
  have hb1 := below_alloc w (.cells #[.int .i64 s, .slice pk 128 ck] 45)
  clear hd
  go_enter Tryz.func54, Tryz.ntmps54
  go_wp2
  obtain ⟨w1, hw1⟩ : ∃ w1, w1 = w.alloc (.cells #[.int .i64 s, .slice pk 128 ck] 45) := ⟨_, rfl⟩
  rw [← hw1] at hc0 hc1 hc2 hp0 hp1 hb1 ⊢
  have hsz : w.heap.size < w1.heap.size := by rw [hw1]; simp
  clear hw1
  go_region_held3 (fun w' => w'.cell? ⟨B0, 0, none⟩ = some (.int .i64 count) ∧ w'.cell? ⟨B0, 1, none⟩ = some (.slice (some ⟨gd, 0, none⟩) data.length data.length) ∧ w'.cell? ⟨B0, 2, none⟩ = some (.slice q ws.length m) ∧ w'.cell? ⟨w.heap.size, 0, none⟩ = some (.int .i64 s)) (go_keep)
    (first
      | (go_at_call 102; refine (has_any count s _ _ _).mono ?_; rintro e w2 ⟨rfl, ob, rfl⟩; rw [decide_eq_true hs])
      | fail)
  go_wp2
  go_ret
  exact ⟨rfl, (hb1.drew).alloc (by show _ ≤ w1.heap.size; omega) _⟩
theorem DiskOwn.pushed {w3 w4 : World} {base B0 gd : Nat} {count : Int} {data : List Nat} {q : Option Addr} {m : Nat} {ws : Puts} {gs : List Nat} (h : DiskOwn w3 base B0 gd count data q m ws gs) {s : Int} {xs : List Nat} {g g' cap' : Nat} {o : Obj} (hx : xs.length = 128 ∧ ∀ c ∈ xs, c < 256) (hb : base ≤ g)
    (hg : w3.heap[g]? = some (.cells (Bs xs).toArray 5 (0, 0))) (hne : g ≠ gd) (hown : w4.ownsRow base 45 2 (.slice (some ⟨g', 0, none⟩) (ws.length + 1) cap') (ws.length + 1) (cellsP ws gs ++ [.int .i64 s, .slice (some ⟨g, 0, none⟩) 128 128])) (hgrow : (w3.alloc o).grownBy w4 (Value.slice q ws.length m).ownBlock)
    (hN2 : some B0 ≠ (Value.slice q ws.length m).ownBlock) :
    DiskOwn (w4.setCell ⟨B0, 2, none⟩ (.slice (some ⟨g', 0, none⟩) (ws.length + 1) cap')) base B0 gd count data (some ⟨g', 0, none⟩) cap' (ws ++ [(s, xs)]) (gs ++ [g]) := by
  have ha := h.below (below_alloc w3 o)
  have P4 := ha.puts.push hx hb (((below_alloc w3 o).block _ (lt_heap hg)).trans hg) hown hgrow
  have box4 := (hgrow.block _ (lt_heap ha.box) hN2).trans ha.box
  have d4 : w4.heap[gd]? = some (.cells (Bs data).toArray 5 (0, 0)) := by
    refine (hgrow.block _ (lt_heap ha.drow) ?_).trans ha.drow
    intro e
    rcases ha.puts.row.2 with ⟨hv, _⟩ | ⟨g1, cap, cur, hv, _, h3, _⟩
    · rw [hv] at e; simp [Value.ownBlock] at e
    · rw [hv] at e
      simp only [Value.ownBlock, Option.some.injEq] at e
      subst e
      rw [ha.drow] at h3
      simp at h3
  have hBne : ∀ (k : Nat) (cs : Array Value) (t : TypeId), t ≠ 25 → w4.heap[k]? = some (.cells cs t (0, 0)) → k ≠ B0 := by
    rintro k cs t ht hk rfl
    rw [box4] at hk
    simp only [Option.some.injEq, Obj.cells.injEq] at hk
    exact ht hk.2.1.symm
  refine ⟨?_, h.hB, h.hgd, ?_, ?_, ?_, h.bytes⟩
  · rw [heap_setCell_same w4 B0 2 _ _ _ box4]
    simp
  · rw [heap_setCell_other w4 ⟨B0, 2, none⟩ gd _ (hBne gd _ _ (by decide) d4)]
    exact d4
  · have e : (ws ++ [(s, xs)]).length = ws.length + 1 := by simp
    rw [e]
    exact P4.keep (fun k cur _ hk => heap_setCell_other w4 ⟨B0, 2, none⟩ k _ (hBne k _ _ (by decide) hk)) (fun i hi => heap_setCell_other w4 ⟨B0, 2, none⟩ _ _ (hBne _ _ _ (by decide) (P4.rows i hi).2))
  · intro i hi
    simp only [List.length_append, List.length_singleton] at hi
    rcases Nat.lt_or_ge i ws.length with h' | h'
    · have e1 : (gs ++ [g]).getD i 0 = gs.getD i 0 := by simp [List.getD, List.getElem?_append_left (show i < gs.length by rw [h.puts.len]; exact h')]
      rw [e1]
      exact h.apart i h'
    · obtain rfl : i = ws.length := by omega
      have e1 : (gs ++ [g]).getD ws.length 0 = g := by rw [← h.puts.len]; simp [List.getD]
      rw [e1]
      exact hne
theorem below_undrew {B : Nat} {w w' : World} (h : Below B w.drew w') : Below B w w' := ⟨h.os, h.tape, h.output, h.size, h.block⟩
theorem below_cell_some {w w' : World} {a : Addr} {v : Value} (hb : Below w.heap.size w w') (h : w.cell? a = some v) : w'.cell? a = some v := (hb.cell (World.block_lt_of_cell? _ _ h)).trans h
theorem c2_setCell {w1 : World} {B : Nat} {x y : Value} (h : w1.cell? ⟨B, 0, none⟩ = some x ∧ w1.cell? ⟨B, 1, none⟩ = some y) {a : Addr} (hne : B ≠ a.block) (v : Value) : (w1.setCell a v).cell? ⟨B, 0, none⟩ = some x ∧ (w1.setCell a v).cell? ⟨B, 1, none⟩ = some y :=
  ⟨(World.cell?_of_block (Below.heap_setCell w1 a v B hne)).trans h.1, (World.cell?_of_block (Below.heap_setCell w1 a v B hne)).trans h.2⟩
set_option maxRecDepth 100000 in
set_option maxHeartbeats 2000000 in
theorem wait_ok (base B0 gd : Nat) (count : Int) (data : List Nat) (q : Option Addr) (m : Nat) (ws : Puts) (gs : List Nat) (s : Int) (pk : Option Addr) (ck : Nat) (xs : List Nat) (w : World) (hd : DiskOwn w base B0 gd count data q m ws gs) (hs : 0 ≤ s ∧ s < count) (hx : xs.length = 128) (hm : ws.length < 4096) (hin : BIn w pk xs) (hbs : base ≤ w.heap.size) :
    Calls Tryz.prog 54 #[.pointer (some ⟨B0, 0, none⟩), .agg #[.int .i64 s, .slice pk 128 ck]] w fun e w' => e = .returned (.int .i64 0) ∧ (∃ q' m' gs', DiskOwn w' base B0 gd count data q' m' (ws ++ [(s, xs)]) gs') ∧ Below base w w' := by
  have HX : Hid (xs.length = 128) := hx
  clear hx
  have hlt := lt_heap hd.box
  obtain ⟨hc0, hc1, hc2⟩ := (hd.below (below_alloc w (.cells #[.int .i64 s, .slice pk 128 ck] 45))).cells
  obtain ⟨hp0, hp1⟩ := put_cells (Below.refl _ (w.alloc (.cells #[.int .i64 s, .slice pk 128 ck] 45)))
  have hb1 := below_alloc w (.cells #[.int .i64 s, .slice pk 128 ck] 45)
  have HD : Hid _ := hd
  have HI : Hid (BIn w pk xs) := hin
  clear hd hin
  obtain ⟨i0, hi, hz0, hz1, hz2⟩ := info_parts info_put
  go_enter Tryz.func54, Tryz.ntmps54
  go_wp2
  obtain ⟨w1, hw1⟩ : ∃ w1, w1 = w.alloc (.cells #[.int .i64 s, .slice pk 128 ck] 45) := ⟨_, rfl⟩
  rw [← hw1] at hc0 hc1 hc2 hp0 hp1 hb1 ⊢
  have hsz : w.heap.size < w1.heap.size := by rw [hw1]; simp
  clear hw1
  go_region_held3 (fun w' => w'.cell? ⟨B0, 0, none⟩ = some (.int .i64 count) ∧ w'.cell? ⟨B0, 1, none⟩ = some (.slice (some ⟨gd, 0, none⟩) data.length data.length) ∧ w'.cell? ⟨B0, 2, none⟩ = some (.slice q ws.length m) ∧ w'.cell? ⟨w.heap.size, 0, none⟩ = some (.int .i64 s)) (go_keep)
    (first
      | (go_at_call 102; refine (has_any count s _ _ _).mono ?_; rintro e w2 ⟨rfl, ob, rfl⟩; rw [decide_eq_true hs])
      | fail)
  go_wp2
  have hd2 : Hid (DiskOwn (w1.alloc ob).drew base B0 gd count data q m ws gs) := by
    have h := (HD.out.below hb1).below (below_alloc w1 ob)
    exact ⟨h.box, h.hB, h.hgd, h.drow, h.puts.below ⟨rfl, rfl, rfl, Nat.le_refl _, fun _ _ => rfl⟩, h.apart, h.bytes⟩
  have hbb2 : Below w.heap.size w (w1.alloc ob).drew := (hb1.alloc (by omega) ob).drew
  have hin2 : Hid (BIn (w1.alloc ob).drew pk xs) := HI.out.below hbb2
  have HC' : Hid ((w1.alloc ob).drew.cell? ⟨w.heap.size, 0, none⟩ = some (.int .i64 s) ∧ (w1.alloc ob).drew.cell? ⟨w.heap.size, 1, none⟩ = some (.slice pk 128 ck)) := c2_alloc ⟨hp0, hp1⟩ ob
  have hsz2 : w.heap.size < (w1.alloc ob).drew.heap.size := by show _ < (w1.alloc ob).heap.size; rw [World.size_alloc]; omega
  clear hp0 hp1 hc0 hc1 hc2 hb1
  generalize (w1.alloc ob).drew = w2 at *
  have HC := HC'.out
  have hc2 := hd2.out.cells.2.2
  have HN : Hid (some w.heap.size ≠ (Value.slice q ws.length m).ownBlock) := by
    intro e
    have := (HD.out.puts.row.lt _ e.symm).2
    omega
  have HN2 : Hid (some B0 ≠ (Value.slice q ws.length m).ownBlock) := by
    intro e
    have h1 := HD.out.box
    rcases HD.out.puts.row.2 with ⟨hv, _⟩ | ⟨g', cap, cur, hv, _, h3, _⟩
    · rw [hv] at e; simp [Value.ownBlock] at e
    · rw [hv] at e
      simp only [Value.ownBlock, Option.some.injEq] at e
      subst e
      rw [h1] at h3
      simp at h3
  refine wp_region_noPanic ?_
  have HT : w2.drew.cell? ⟨w.heap.size, 0, none⟩ = some (.int .i64 s) ∧ w2.drew.cell? ⟨w.heap.size, 1, none⟩ = some (.slice pk 128 ck) := HC
  have HS : w2.drew.cell? ⟨B0, 2, none⟩ = some (.slice q ws.length m) := hc2
  clear HC hc2
  refine beginZ (T := fun w' => w'.cell? ⟨w.heap.size, 0, none⟩ = some (.int .i64 s) ∧ w'.cell? ⟨w.heap.size, 1, none⟩ = some (.slice pk 128 ck)) (S := fun w' => w'.cell? ⟨B0, 2, none⟩ = some (.slice q ws.length m)) 15 (by kernel_rfl) ?_
  refine takeT 0 22 (v := ?_) rfl rfl (by kernel_rfl) (by kernel_rfl) (by kernel_rfl) (by kernel_rfl) (fun _ _ _ h => h) (by rfl) ?_ (by assumption) (by assumption) ?_
  rotate_left
  · intro w hTw; go_simp; first | done | with_reducible rfl
  simp only [Act.put, List.setIfInBounds_toArray, List.set_cons_zero, List.set_cons_succ]
  refine takeT 1 23 (v := ?_) rfl rfl (by kernel_rfl) (by kernel_rfl) (by kernel_rfl) (by kernel_rfl) (fun _ _ _ h => h) (by rfl) ?_ (by assumption) (by assumption) ?_
  rotate_left
  · intro w hTw; go_simp; first | done | with_reducible rfl
  simp only [Act.put, List.setIfInBounds_toArray, List.set_cons_zero, List.set_cons_succ]
  refine takeT 2 24 (v := ?_) rfl rfl (by kernel_rfl) (by kernel_rfl) (by kernel_rfl) (by kernel_rfl) (fun _ _ _ h => h) (by rfl) ?_ (by assumption) (by assumption) ?_
  rotate_left
  · intro w hTw; go_simp; first | done | with_reducible rfl
  simp only [Act.put, List.setIfInBounds_toArray, List.set_cons_zero, List.set_cons_succ]
  refine takeT 3 25 (v := ?_) rfl rfl (by kernel_rfl) (by kernel_rfl) (by kernel_rfl) (by kernel_rfl) (fun _ _ _ h => h) (by rfl) ?_ (by assumption) (by assumption) ?_
  rotate_left
  · intro w hTw; go_simp; first | done | with_reducible rfl
  simp only [Act.put, List.setIfInBounds_toArray, List.set_cons_zero, List.set_cons_succ]
  refine takeZ 4 26 12 (v := ?_) rfl rfl (by kernel_rfl) (by kernel_rfl) (by kernel_rfl) (by kernel_rfl) (by kernel_rfl) (by kernel_rfl) (by kernel_rfl) (fun _ _ _ h => h) (by rfl) ?_ (by assumption) (by assumption) ?_
  rotate_left
  · intro w hTw hSw; go_simp; first | done | with_reducible rfl
  simp only [Act.put, List.setIfInBounds_toArray, List.set_cons_zero, List.set_cons_succ]
  refine takeT 5 27 (v := ?_) rfl rfl (by kernel_rfl) (by kernel_rfl) (by kernel_rfl) (by kernel_rfl) (fun _ _ _ h => h) (by rfl) ?_ (by assumption) (by assumption) ?_
  rotate_left
  · intro w hTw; go_simp; first | done | with_reducible rfl
  simp only [Act.put, List.setIfInBounds_toArray, List.set_cons_zero, List.set_cons_succ]
  refine takeT 6 28 (v := ?_) rfl rfl (by kernel_rfl) (by kernel_rfl) (by kernel_rfl) (by kernel_rfl) (fun _ _ _ h => h) (by rfl) ?_ (by assumption) (by assumption) ?_
  rotate_left
  · intro w hTw; go_simp; first | done | with_reducible rfl
  simp only [Act.put, List.setIfInBounds_toArray, List.set_cons_zero, List.set_cons_succ]
  refine takeT 7 29 (v := ?_) rfl rfl (by kernel_rfl) (by kernel_rfl) (by kernel_rfl) (by kernel_rfl) (fun _ _ _ h => h) (by rfl) ?_ (by assumption) (by assumption) ?_
  rotate_left
  · intro w hTw; go_simp; first | done | with_reducible rfl
  simp only [Act.put, List.setIfInBounds_toArray, List.set_cons_zero, List.set_cons_succ]
  refine takeT 8 30 (v := ?_) rfl rfl (by kernel_rfl) (by kernel_rfl) (by kernel_rfl) (by kernel_rfl) (fun _ _ _ h => h) (by rfl) ?_ (by assumption) (by assumption) ?_
  rotate_left
  · intro w hTw; go_simp; first | done | with_reducible rfl
  simp only [Act.put, List.setIfInBounds_toArray, List.set_cons_zero, List.set_cons_succ]
  refine oneZ 9 (by kernel_rfl) rfl (by rfl) (fun K hK => ?_)
  go_simp
  refine (copyOf_any pk ck xs w2.drew (show BIn w2.drew pk xs from hin2.out) HX.out).mono ?_
  rintro e w3 ⟨g, rfl, hg1, hg2, hb3⟩
  have hc3 := below_cell_some hb3 HS
  have hT3 := c2_below HC'.out hb3
  go_simp
  refine hK.out _ _ hT3 hc3 (fun hTx hSx => ?_)
  clear hK K hT3 hc3 HT HS
  refine takeT 10 32 (v := ?_) rfl rfl (by kernel_rfl) (by kernel_rfl) (by kernel_rfl) (by kernel_rfl) (fun _ _ _ h => h) (by rfl) ?_ (by assumption) (by assumption) ?_
  rotate_left
  · intro w hTw; go_simp; first | done | with_reducible rfl
  simp only [Act.put, List.setIfInBounds_toArray, List.set_cons_zero, List.set_cons_succ]
  refine oneZ 11 (by kernel_rfl) rfl (by rfl) (fun K hK => ?_)
  go_simp
  refine hK.out _ _ (c2_alloc hTx _) (below_cell_some (below_alloc w3 _) hSx) (fun hTy hSy => ?_)
  clear hK K hTx hSx
  refine oneZ 12 (by kernel_rfl) rfl (by rfl) (fun K hK => ?_)
  refine step_append_lies _ (by rfl) (.tmp 26) (.tmp 33) 23 (by rfl) base 45 i0 _ 2 32 Tryz.underlying23 hi hz0 hz1 hz2 rfl (by omega) (.slice q ws.length m) ws.length (cellsP ws gs) (by rfl) ((hd2.out.puts.below (below_undrew hb3)).row.alloc _) ⟨w3.heap.size, 0, none⟩ 1 1 [.int .i64 s, .slice (some ⟨g, 0, none⟩) 128 128] (by rfl) (by rfl) (World.news_of_block (cs := #[.int .i64 s, .slice (some ⟨g, 0, none⟩) 128 128]) (t := 45) (fr := (0, 0)) (heap_alloc_new w3 _)) (two_oneCell _ _ _ _) (by omega) (by unfold maxLen; omega) (by omega) (by have := hb3.size; have := hbb2.size; rw [World.size_alloc]; simp at *; omega) (w3.heap.size + 1) (by simp) ?_
  intro g' cap' w4 hown4 hgrow hat hlt4
  refine hK.out _ _ (c2_grown hTy hgrow HN.out) (hgrow.cell hSy HN2.out) (fun hTx hSx => ?_)
  clear hK K hTy hSy hat hlt4
  show wpAnyZ _ _ _ _ _ _ _ _ _ (Act.put _ (some 34) _) _
  simp only [Act.put, List.setIfInBounds_toArray, List.set_cons_zero, List.set_cons_succ]
  refine takeT 13 35 (v := ?_) rfl rfl (by kernel_rfl) (by kernel_rfl) (by kernel_rfl) (by kernel_rfl) (fun _ _ _ h => h) (by rfl) ?_ (by assumption) (by assumption) ?_
  rotate_left
  · intro w hTw; go_simp; first | done | with_reducible rfl
  simp only [Act.put, List.setIfInBounds_toArray, List.set_cons_zero, List.set_cons_succ]
  refine takeT 14 36 (v := ?_) rfl rfl (by kernel_rfl) (by kernel_rfl) (by kernel_rfl) (by kernel_rfl) (fun _ _ _ h => h) (by rfl) ?_ (by assumption) (by assumption) ?_
  rotate_left
  · intro w hTw; go_simp; first | done | with_reducible rfl
  simp only [Act.put, List.setIfInBounds_toArray, List.set_cons_zero, List.set_cons_succ]
  have hbox4 := (hgrow.block _ (by rw [World.size_alloc]; have := hb3.size; have := hsz2; show B0 < _; simp at *; omega) HN2.out).trans (((below_alloc w3 (.cells #[.int .i64 s, .slice (some ⟨g, 0, none⟩) 128 128] 45)).block _ (lt_heap ((hb3.block _ (lt_heap hd2.out.box)).trans hd2.out.box))).trans ((hb3.block _ (lt_heap hd2.out.box)).trans hd2.out.box))
  have hfr := frozen_of_row w4 B0 2 _ _ hbox4
  have HBX : Hid _ := hbox4
  clear hbox4
  refine lastZ (by kernel_rfl) rfl (by rfl) (fun K hK => ?_)
  go_simp
  refine hK.out _ _ (c2_setCell hTx (by simp; omega) _) ?_
  clear hK K
  refine doneZ (by kernel_rfl) (NoPanic.normal ?_) _
  go_wp2
  go_ret
  have hd3 := hd2.out.below (below_undrew hb3)
  have z2 := hbb2.size
  have z3 : w2.heap.size ≤ w3.heap.size := hb3.size
  refine ⟨rfl, ⟨_, _, _, hd3.pushed ⟨HX.out, HI.out.2⟩ (Nat.le_trans (show base ≤ w2.heap.size by omega) hg1) hg2 ?_ hown4 hgrow HN2.out⟩, ?_⟩
  · have := lt_heap hd2.out.drow
    have : w2.heap.size ≤ g := hg1
    omega
  · have b3 : Below base w w3 := (hbb2.mono hbs).trans ((below_undrew hb3).mono (show base ≤ w2.heap.size by omega))
    exact ((b3.alloc (by omega) _).grown hgrow (by rw [World.size_alloc]; omega) (fun x hx => (hd3.puts.row.lt x hx).1)).setCell HD.out.hB _
end Go.Proofs.YthifpelappedcaaGreatDoor
namespace Go.Proofs.YthifpelappedcaaGreatDoor
set_option maxRecDepth 8000
open Go.RowKit Go.WideShapes

/-- A disk of the call's own, by value. -/
structure DiskNew (w : World) (base : Nat) (v : Value) (count : Int) (data : List Nat) (ws : Puts) : Prop where
  lies : ∃ gd q m gs, v = .agg #[.int .i64 count, .slice (some ⟨gd, 0, none⟩) data.length data.length, .slice q ws.length m] ∧ base ≤ gd ∧ w.heap[gd]? = some (.cells (Bs data).toArray 5 (0, 0)) ∧ PutsOwn w base (.slice q ws.length m) ws gs ∧ (∀ i, i < ws.length → gs.getD i 0 ≠ gd)
  bytes : ∀ c ∈ data, c < 256
theorem i64_wf {n : Int} (h1 : -9223372036854775808 ≤ n) (h2 : n ≤ 9223372036854775807) : (Lit.int .i64 n).wf = true := by
  simp [Lit.wf, IntKind.min, IntKind.max, IntKind.signed, IntKind.bits]; omega
theorem DiskNew.toIn {w : World} {base : Nat} {v : Value} {count : Int} {data : List Nat} {ws : Puts} (h : DiskNew w base v count data ws) (ho : Okay count data ws) : DiskIn w v count data ws := by
  obtain ⟨gd, q, m, gs, rfl, _, h2, h3, _⟩ := h.lies
  obtain ⟨_, g2, g3, g4, g5⟩ := h3.lies
  have h1 := ho.lo
  have h2' := ho.hi
  have hl := ho.len
  refine ⟨⟨_, q, m, rfl, ⟨some ⟨gd, 0, none⟩, data.length, rfl, bin_row h2 h.bytes, Nat.le_refl _, by unfold maxLen; omega, fun h => by cases h⟩, g2, g3, g4, g5⟩, i64_wf (by omega) (by omega), fun y hy => ?_⟩
  have := ho.each y hy
  exact i64_wf (by omega) (by omega)

/-- Three cells stored over a block of three. -/
theorem set3_other (w : World) (B k : Nat) (a b c : Value) (h : k ≠ B) : (((w.setCell ⟨B, 0, none⟩ a).setCell ⟨B, 1, none⟩ b).setCell ⟨B, 2, none⟩ c).heap[k]? = w.heap[k]? := by
  rw [heap_setCell_other _ ⟨B, 2, none⟩ k _ h, heap_setCell_other _ ⟨B, 1, none⟩ k _ h, heap_setCell_other _ ⟨B, 0, none⟩ k _ h]
theorem set3_same (w : World) (B : Nat) (x y z a b c : Value) (t : TypeId) (h : w.heap[B]? = some (.cells #[x, y, z] t (0, 0))) : (((w.setCell ⟨B, 0, none⟩ a).setCell ⟨B, 1, none⟩ b).setCell ⟨B, 2, none⟩ c).heap[B]? = some (.cells #[a, b, c] t (0, 0)) := by
  have e0 := heap_setCell_same w B 0 _ _ a h
  have e1 := heap_setCell_same _ B 1 _ _ b e0
  have e2 := heap_setCell_same _ B 2 _ _ c e1
  rw [e2]; rfl
theorem set3_below {base B : Nat} {w0 w : World} (h : Below base w0 w) (hB : base ≤ B) (a b c : Value) : Below base w0 (((w.setCell ⟨B, 0, none⟩ a).setCell ⟨B, 1, none⟩ b).setCell ⟨B, 2, none⟩ c) :=
  ((h.setCell (p := ⟨B, 0, none⟩) hB a).setCell (p := ⟨B, 1, none⟩) hB b).setCell (p := ⟨B, 2, none⟩) hB c
theorem DiskNew.keep {w w' : World} {base : Nat} {v : Value} {count : Int} {data : List Nat} {ws : Puts} (h : DiskNew w base v count data ws) (hk : ∀ (k : Nat) (cs : Array Value) (t : TypeId), t = 5 ∨ t = 45 → w.heap[k]? = some (.cells cs t (0, 0)) → w'.heap[k]? = w.heap[k]?) : DiskNew w' base v count data ws := by
  obtain ⟨gd, q, m, gs, h1, h2, h3, h4, h5⟩ := h.lies
  exact ⟨⟨gd, q, m, gs, h1, h2, (hk _ _ _ (.inl rfl) h3).trans h3, h4.keep (fun g cur _ e => hk _ _ _ (.inr rfl) e) (fun i hi => hk _ _ _ (.inl rfl) (h4.rows i hi).2), h5⟩, h.bytes⟩
theorem DiskNew.below {w w' : World} {base : Nat} {v : Value} {count : Int} {data : List Nat} {ws : Puts} (h : DiskNew w base v count data ws) (hb : Below w.heap.size w w') : DiskNew w' base v count data ws :=
  h.keep fun k _ _ _ e => hb.block k (lt_heap e)
theorem DiskNew.mono {w : World} {base base' : Nat} {v : Value} {count : Int} {data : List Nat} {ws : Puts} (h : DiskNew w base v count data ws) (hb : base' ≤ base) : DiskNew w base' v count data ws := by
  obtain ⟨gd, q, m, gs, h1, h2, h3, h4, h5⟩ := h.lies
  exact ⟨⟨gd, q, m, gs, h1, Nat.le_trans hb h2, h3, h4.mono hb, h5⟩, h.bytes⟩
theorem DiskNew.set3 {w : World} {base B : Nat} {v : Value} {count : Int} {data : List Nat} {ws : Puts} {cs : Array Value} (h : DiskNew w base v count data ws) (hB : w.heap[B]? = some (.cells cs 25 (0, 0))) (a b c : Value) :
    DiskNew (((w.setCell ⟨B, 0, none⟩ a).setCell ⟨B, 1, none⟩ b).setCell ⟨B, 2, none⟩ c) base v count data ws := by
  refine h.keep fun k cs' t ht e => set3_other w B k a b c ?_
  rintro rfl
  rw [hB] at e
  simp only [Option.some.injEq, Obj.cells.injEq] at e
  rcases ht with rfl | rfl
  · exact absurd e.2.1 (by decide)
  · exact absurd e.2.1 (by decide)
theorem box_block {w wr : World} {o : Obj} (h : Below (w.heap.size + 1) (w.alloc o) wr) : wr.heap[w.heap.size]? = some o := (h.block _ (by omega)).trans (heap_alloc_new w _)
theorem box_free {w wr : World} {a b c : Value} {t : TypeId} (h : Below (w.heap.size + 1) (w.alloc (.cells #[a, b, c] t)) wr) :
    wr.frozen? ⟨w.heap.size, 0, none⟩ = false ∧ wr.frozen? ⟨w.heap.size, 1, none⟩ = false ∧ wr.frozen? ⟨w.heap.size, 2, none⟩ = false := by
  have hh : wr.heap[w.heap.size]? = some (.cells #[a, b, c] t (0, 0)) := (h.block _ (by omega)).trans (heap_alloc_new w _)
  exact ⟨frozen_of_row _ _ _ _ _ hh, frozen_of_row _ _ _ _ _ hh, frozen_of_row _ _ _ _ _ hh⟩
set_option maxRecDepth 100000 in
set_option maxHeartbeats 400000 in
theorem new_bad (count : Int) (w : World) (h : ¬ (1 ≤ count ∧ count ≤ 4096)) :
    Calls Tryz.prog 12 #[.int .i64 count] w fun e w' => e = .returned (.tuple #[.agg #[.int .i64 0, .slice none 0 0, .slice none 0 0], .int .i64 20]) ∧ Below w.heap.size w w' := by
  go_enter Tryz.func12, Tryz.ntmps12
  go_wp2_with (go_at_call 47; refine (mayCount_any count _).mono ?_; rintro e w1 ⟨rfl, rfl⟩; rw [decide_eq_false h])
  (try simp only [Exit.inBlock, Exit.then])
  refine bodyPost_ret (v := .tuple #[.agg #[.int .i64 0, .slice none 0 0, .slice none 0 0], .int .i64 20]) ?_ rfl ⟨rfl, below_alloc _ _⟩
  rw [results_cell_tmp rfl]
  go_simp
set_option maxRecDepth 100000 in
set_option maxHeartbeats 400000 in
theorem new_ok (n : Nat) (w : World) (h1 : 1 ≤ n) (h2 : n ≤ 4096) :
    Calls Tryz.prog 12 #[.int .i64 n] w fun e w' => ∃ v, e = .returned (.tuple #[v, .int .i64 0]) ∧ DiskNew w' w.heap.size v n (List.replicate (n * 128) 0) [] ∧ Below w.heap.size w w' := by
  obtain ⟨i0, hi, hz0, hz1, hz2⟩ := info_parts info_u8
  have h : 1 ≤ (n : Int) ∧ (n : Int) ≤ 4096 := by omega
  go_enter Tryz.func12, Tryz.ntmps12
  go_wp2_with (first | (go_at_call 47; refine (mayCount_any n _).mono ?_; rintro e w1 ⟨rfl, rfl⟩; rw [decide_eq_true h]) | (at_make; refine wpList_make_full _ rfl _ _ 22 rfl (w.heap.size + 1) 5 i0 (.int .u8 0) 1 Tryz.underlying22 hi hz0 hz1 .i64 .i64 _ _ (n * 128) rfl rfl (by omega) (by omega) (by rw [hz2]; omega) (by unfold maxLen; omega) (by simp) ?_))
  intro w1 hown hgrow
  have hrow := row_full hown
  rw [zeros_made] at hrow
  have hb1 : Below (w.heap.size + 1) (w.alloc (.cells #[.int .i64 0, .slice none 0 0, .slice none 0 0] 25)) w1 := (Below.refl _ _).grown hgrow (by simp) (fun k hk => by cases hk)
  obtain ⟨c0, c1, c2⟩ := box_cells hb1
  obtain ⟨f0, f1, f2⟩ := box_free hb1
  have HR : Hid _ := hrow
  clear hown hgrow hrow
  go_wp2
  (try simp only [Exit.inBlock, Exit.then])
  refine bodyPost_ret (v := .tuple #[.agg #[.int .i64 n, .slice (some ⟨w.heap.size + 1, 0, none⟩) (n * 128) (n * 128), .slice none 0 0], .int .i64 0]) ?_ rfl ⟨_, rfl, ?_, ?_⟩
  · rw [results_cell_tmp rfl]
    go_simp
  · refine DiskNew.set3 ?_ (box_block hb1) _ _ _
    refine ⟨⟨w.heap.size + 1, none, 0, [], by simp, by omega, HR.out, putsOwn_nil _ _, fun i hi => absurd hi (by simp)⟩, ?_⟩
    intro c hc
    rw [(List.mem_replicate.1 hc).2]
    decide
  · exact set3_below (box_below hb1) (Nat.le_refl _) _ _ _
end Go.Proofs.YthifpelappedcaaGreatDoor
namespace Go.Proofs.YthifpelappedcaaGreatDoor
open Go.RowKit Go.WideShapes

section
variable {P : Program} {ops : Array Oper} {Q : Exit → Act → World → Prop} {md : Region.Mode} {S : World → Prop}

theorem takeH (i d : Nat) {oi : Oper} {v : Value} {fuel : Nat} {listed : Array Bool} {a : Act} {w : World} (hi : ops[i]? = some oi) (hd : oi.dst = some d)
    (hs : Region.noSelect ops = true) (hf : Region.free md ops listed i = true) (hr : (Region.ready md ops listed).contains i = true)
    (hQ : ∀ c a w, Q (.panic c) (a.put oi.dst v) w → Q (.panic c) a w) (hw : Region.wanted oi (yielded ops a.tmps) = true) (hy : ∀ w, S w → (execOp a.eval oi).run P w = .ok (.value v) w) (hS : S w)
    (h : wpAnyH P md ops Q S fuel (listed.setIfInBounds i true) (a.put (some d) v) w) : wpAnyH P md ops Q S (fuel + 1) listed a w :=
  wpAnyH_take hi hs hf hr hQ (Or.inl ⟨hw, hy⟩) hS (by rw [hd]; exact h)
theorem skipH (i d : Nat) {oi : Oper} {fuel : Nat} {listed : Array Bool} {a : Act} {w : World} (hi : ops[i]? = some oi) (hd : oi.dst = some d)
    (hs : Region.noSelect ops = true) (hf : Region.free md ops listed i = true) (hr : (Region.ready md ops listed).contains i = true)
    (hQ : ∀ c a w, Q (.panic c) (a.put oi.dst undef) w → Q (.panic c) a w) (hw : Region.wanted oi (yielded ops a.tmps) = false) (hS : S w)
    (h : wpAnyH P md ops Q S fuel (listed.setIfInBounds i true) (a.put (some d) undef) w) : wpAnyH P md ops Q S (fuel + 1) listed a w :=
  wpAnyH_take hi hs hf hr hQ (Or.inr ⟨hw, rfl⟩) hS (by rw [hd]; exact h)
end
end Go.Proofs.YthifpelappedcaaGreatDoor
namespace Go.Proofs.YthifpelappedcaaGreatDoor
set_option maxRecDepth 8000
open Go.RowKit Go.WideShapes
attribute [local go_sem ↓] Go.wp_at_zero Go.wp_at_succ

/-- No disk at all. -/
abbrev zeroDisk : Value := .agg #[.int .i64 0, .slice none 0 0, .slice none 0 0]
theorem box2_cells {w wr : World} {a b c a' b' c' : Value} {t t' : TypeId} (h : Below (w.heap.size + 2) ((w.alloc (.cells #[a, b, c] t)).alloc (.cells #[a', b', c'] t')) wr) :
    wr.heap[w.heap.size]? = some (.cells #[a, b, c] t (0, 0)) ∧ wr.heap[w.heap.size + 1]? = some (.cells #[a', b', c'] t' (0, 0)) :=
  ⟨(h.block _ (by omega)).trans (heap_alloc2_old w _ _), (h.block _ (by omega)).trans (heap_alloc2_new w _ _)⟩
theorem box2_below {w wr : World} {o o' : Obj} (h : Below (w.heap.size + 2) ((w.alloc o).alloc o') wr) : Below w.heap.size w wr := ((below_alloc w o).alloc (by simp) o').trans (h.mono (by omega))
theorem box2_size {w wr : World} {o o' : Obj} (h : Below (w.heap.size + 2) ((w.alloc o).alloc o') wr) : w.heap.size + 2 ≤ wr.heap.size := by
  have := h.size
  simp at this
  omega
theorem cells3 {w : World} {B : Nat} {a b c : Value} {t : TypeId} (h : w.heap[B]? = some (.cells #[a, b, c] t (0, 0))) : w.cell? ⟨B, 0, none⟩ = some a ∧ w.cell? ⟨B, 1, none⟩ = some b ∧ w.cell? ⟨B, 2, none⟩ = some c :=
  ⟨cell_of_row _ _ _ _ _ _ h, cell_of_row _ _ _ _ _ _ h, cell_of_row _ _ _ _ _ _ h⟩
theorem free3 {w : World} {B : Nat} {a b c : Value} {t : TypeId} (h : w.heap[B]? = some (.cells #[a, b, c] t (0, 0))) : w.frozen? ⟨B, 0, none⟩ = false ∧ w.frozen? ⟨B, 1, none⟩ = false ∧ w.frozen? ⟨B, 2, none⟩ = false :=
  ⟨frozen_of_row _ _ _ _ _ h, frozen_of_row _ _ _ _ _ h, frozen_of_row _ _ _ _ _ h⟩

set_option maxHeartbeats 1000000 in
theorem do_bad (v l : Value) (count : Int) (data : List Nat) (ws : Puts) (w : World) (hd : DiskIn w v count data ws) (ho : ¬ Okay count data ws) :
    Calls Tryz.prog 16 #[v, l] w fun e w' => e = .returned (.tuple #[zeroDisk, .int .i64 20]) ∧ Below w.heap.size w w' := by
  obtain ⟨p, c, q, m, rfl, _⟩ := hd.parts
  have HD : Hid _ := hd
  clear hd
  go_enter Tryz.func16, Tryz.ntmps16
  go_wp2_with fail
  refine (check_bad _ count data ws _ (HD.out.below ((below_alloc w _).alloc (by simp) _)) ho).mono ?_
  rintro e w1 ⟨rfl, hb1⟩
  replace hb1 : Below (w.heap.size + 2) ((w.alloc (.cells #[.int .i64 count, .slice p data.length c, .slice q ws.length m] 25)).alloc (.cells #[.int .i64 0, .slice none 0 0, .slice none 0 0] 25)) w1 := by simpa using hb1
  obtain ⟨hB, hR⟩ := box2_cells hb1
  obtain ⟨c0, c1, c2⟩ := cells3 hR
  obtain ⟨f0, f1, f2⟩ := free3 hR
  clear hB hR
  go_wp2
  (try simp only [Exit.inBlock, Exit.then])
  refine bodyPost_ret (v := .tuple #[zeroDisk, .int .i64 20]) ?_ rfl ⟨rfl, ?_⟩
  · rw [results_cell_tmp rfl]
    go_simp
  · exact set3_below (box2_below hb1) (by omega) _ _ _

theorem keepS {W w1 w2 : World} {B H : Nat} {x y z : Value} (hz : B ≤ W.heap.size) (h : (w1.cell? ⟨H, 0, none⟩ = some x ∧ w1.cell? ⟨H, 1, none⟩ = some y ∧ w1.cell? ⟨H, 2, none⟩ = some z) ∧ Hid (Below B W w1)) (hb : Below w1.heap.size w1 w2) :
    (w2.cell? ⟨H, 0, none⟩ = some x ∧ w2.cell? ⟨H, 1, none⟩ = some y ∧ w2.cell? ⟨H, 2, none⟩ = some z) ∧ Hid (Below B W w2) :=
  ⟨⟨below_cell_some hb h.1.1, below_cell_some hb h.1.2.1, below_cell_some hb h.1.2.2⟩, h.2.out.trans (hb.mono (Nat.le_trans hz h.2.out.size))⟩
theorem keepA {W w1 : World} {B H : Nat} {x y z : Value} (hz : B ≤ W.heap.size) (h : (w1.cell? ⟨H, 0, none⟩ = some x ∧ w1.cell? ⟨H, 1, none⟩ = some y ∧ w1.cell? ⟨H, 2, none⟩ = some z) ∧ Hid (Below B W w1)) (o : Obj) :
    ((w1.alloc o).cell? ⟨H, 0, none⟩ = some x ∧ (w1.alloc o).cell? ⟨H, 1, none⟩ = some y ∧ (w1.alloc o).cell? ⟨H, 2, none⟩ = some z) ∧ Hid (Below B W (w1.alloc o)) :=
  keepS hz h (below_alloc w1 o)
theorem alloc_carry {X w2 : World} {a b c : Value} {t : TypeId} (h : Below (X.alloc (.cells #[a, b, c] t)).heap.size (X.alloc (.cells #[a, b, c] t)) w2) : w2.heap[X.heap.size]? = some (.cells #[a, b, c] t (0, 0)) :=
  (h.block _ (by simp)).trans (heap_alloc_new X _)
theorem keep3 {W w1 : World} {B H : Nat} {x y z : Value} (h : (w1.cell? ⟨H, 0, none⟩ = some x ∧ w1.cell? ⟨H, 1, none⟩ = some y ∧ w1.cell? ⟨H, 2, none⟩ = some z) ∧ Hid (Below B W w1)) {G : Nat} (hG : H ≠ G ∧ B ≤ G) (a b c : Value) :
    ((((w1.setCell ⟨G, 0, none⟩ a).setCell ⟨G, 1, none⟩ b).setCell ⟨G, 2, none⟩ c).cell? ⟨H, 0, none⟩ = some x ∧ (((w1.setCell ⟨G, 0, none⟩ a).setCell ⟨G, 1, none⟩ b).setCell ⟨G, 2, none⟩ c).cell? ⟨H, 1, none⟩ = some y ∧ (((w1.setCell ⟨G, 0, none⟩ a).setCell ⟨G, 1, none⟩ b).setCell ⟨G, 2, none⟩ c).cell? ⟨H, 2, none⟩ = some z) ∧ Hid (Below B W (((w1.setCell ⟨G, 0, none⟩ a).setCell ⟨G, 1, none⟩ b).setCell ⟨G, 2, none⟩ c)) :=
  have e := set3_other w1 G H a b c hG.1
  ⟨⟨(World.cell?_of_block e).trans h.1.1, (World.cell?_of_block e).trans h.1.2.1, (World.cell?_of_block e).trans h.1.2.2⟩, set3_below h.2.out hG.2 _ _ _⟩
theorem below_bt {a b c : World} (h : Below a.heap.size a b) (k : Below b.heap.size b c) : Below a.heap.size a c := h.trans (k.mono h.size)
theorem apart_after {w : World} {base gd : Nat} {v : Value} {ws : Puts} {gs : List Nat} (h : PutsOwn w base v ws gs) (hg : gd < base) : ∀ i, i < ws.length → gs.getD i 0 ≠ gd := fun i hi e => by
  have := (h.rows i hi).1
  omega
theorem apart_before {w : World} {base gd : Nat} {v : Value} {ws : Puts} {gs : List Nat} (h : PutsOwn w base v ws gs) (hg : w.heap.size ≤ gd) : ∀ i, i < ws.length → gs.getD i 0 ≠ gd := fun i hi e => by
  have := lt_heap (h.rows i hi).2
  omega
theorem own_alloc {Y : World} {base gd : Nat} {count : Int} {data : List Nat} {q : Option Addr} {m : Nat} {ws : Puts} {gs : List Nat} (hg : Y.heap[gd]? = some (.cells (Bs data).toArray 5 (0, 0))) (hgb : base ≤ gd) (hp : PutsOwn Y base (.slice q ws.length m) ws gs) (ha : ∀ i, i < ws.length → gs.getD i 0 ≠ gd) (hby : ∀ c ∈ data, c < 256) (hbase : base ≤ Y.heap.size) :
    DiskOwn (Y.alloc (.cells #[.int .i64 count, .slice (some ⟨gd, 0, none⟩) data.length data.length, .slice q ws.length m] 25)) base Y.heap.size gd count data q m ws gs :=
  ⟨heap_alloc_new Y _, hbase, hgb, ((below_alloc Y _).block _ (lt_heap hg)).trans hg, hp.below (below_alloc Y _), ha, hby⟩
theorem own_set3 {Y : World} {base B0 gd : Nat} {x y z : Value} {count : Int} {data : List Nat} {q : Option Addr} {m : Nat} {ws : Puts} {gs : List Nat} (hB : Y.heap[B0]? = some (.cells #[x, y, z] 25 (0, 0))) (hBb : base ≤ B0) (hg : Y.heap[gd]? = some (.cells (Bs data).toArray 5 (0, 0))) (hgb : base ≤ gd) (hp : PutsOwn Y base (.slice q ws.length m) ws gs) (ha : ∀ i, i < ws.length → gs.getD i 0 ≠ gd) (hby : ∀ c ∈ data, c < 256) :
    DiskOwn (((Y.setCell ⟨B0, 0, none⟩ (.int .i64 count)).setCell ⟨B0, 1, none⟩ (.slice (some ⟨gd, 0, none⟩) data.length data.length)).setCell ⟨B0, 2, none⟩ (.slice q ws.length m)) base B0 gd count data q m ws gs := by
  have hne : ∀ (k : Nat) (cs : Array Value) (t : TypeId), t ≠ 25 → Y.heap[k]? = some (.cells cs t (0, 0)) → k ≠ B0 := by
    rintro k cs t ht hk rfl
    rw [hB] at hk
    simp only [Option.some.injEq, Obj.cells.injEq] at hk
    exact ht hk.2.1.symm
  exact ⟨set3_same Y B0 _ _ _ _ _ _ _ hB, hBb, hgb, (set3_other Y B0 gd _ _ _ (hne _ _ _ (by decide) hg)).trans hg, hp.keep (fun k cur _ hk => set3_other Y B0 k _ _ _ (hne _ _ _ (by decide) hk)) (fun i hi => set3_other Y B0 _ _ _ _ (hne _ _ _ (by decide) (hp.rows i hi).2)), ha, hby⟩
theorem DiskOwn.toNew {w : World} {base B0 gd : Nat} {count : Int} {data : List Nat} {q : Option Addr} {m : Nat} {ws : Puts} {gs : List Nat} (h : DiskOwn w base B0 gd count data q m ws gs) : DiskNew w base (.agg #[.int .i64 count, .slice (some ⟨gd, 0, none⟩) data.length data.length, .slice q ws.length m]) count data ws :=
  ⟨⟨gd, q, m, gs, rfl, h.hgd, h.drow, h.puts, h.apart⟩, h.bytes⟩
theorem ActsIn.addr {w : World} {q : Option Addr} {l : Acts} (h : ActsIn w q l) (hw : 0 < l.length) : ∃ b o, q = some ⟨b, o, none⟩ := by
  obtain ⟨b, o, e, _⟩ := h hw
  exact ⟨b, o, e⟩
theorem ActsIn.at {w : World} {b o : Nat} {l : Acts} (h : ActsIn w (some ⟨b, o, none⟩) l) {k : Nat} (hk : k < l.length) :
    w.cell? ⟨b, o + k * 3, none⟩ = some (.bool (l.getD k (false, 0, [])).1) ∧ w.cell? ⟨b, o + k * 3 + 1, none⟩ = some (.int .i64 (l.getD k (false, 0, [])).2.1) ∧ ∃ p c, w.cell? ⟨b, o + k * 3 + 2, none⟩ = some (.slice p (l.getD k (false, 0, [])).2.2.length c) ∧ BIn w p (l.getD k (false, 0, [])).2.2 := by
  obtain ⟨b', o', e, hc⟩ := h (by omega)
  simp only [Option.some.injEq, Addr.mk.injEq, and_true] at e
  obtain ⟨rfl, rfl⟩ := e
  obtain ⟨h1, h2, v, h3, hr⟩ := hc k hk
  obtain ⟨p, c, rfl, g, _⟩ := hr.lies
  exact ⟨h1, by rw [Nat.add_assoc]; exact h2, p, c, by rw [Nat.add_assoc]; exact h3, g⟩
/-- What Do answers: an error and no disk; or the disk then, in memory of its own. -/
inductive DoPost (base : Nat) (count : Int) : Except Int (List Nat × Puts) → Ending → World → Prop
  | err (c : Int) (w' : World) : DoPost base count (.error c) (.returned (.tuple #[zeroDisk, .int .i64 c])) w'
  | ok (data : List Nat) (ws : Puts) (v : Value) (w' : World) : DiskNew w' base v count data ws → DoPost base count (.ok (data, ws)) (.returned (.tuple #[v, .int .i64 0])) w'
set_option maxHeartbeats 2000000 in
theorem do_ok (v : Value) (count : Int) (data : List Nat) (ws : Puts) (w : World) (hd : DiskIn w v count data ws) (ho : Okay count data ws) (ql : Option Addr) (ml : Nat) (l : Acts) (hl : ActsIn w ql l) (hll : l.length ≤ 9223372036854775807) :
    Calls Tryz.prog 16 #[v, .slice ql l.length ml] w fun e w' => DoPost w.heap.size count (doN count (data, ws) l) e w' ∧ Below w.heap.size w w' := by
  obtain ⟨p, c, q, m, rfl, hb, _⟩ := hd.parts
  have HBY : Hid (∀ c ∈ data, c < 256) := hb.2
  clear hb
  have HD : Hid _ := hd
  have HO : Hid _ := ho
  clear hd ho
  go_enter Tryz.func16, Tryz.ntmps16
  go_wp2_with fail
  refine (check_ok _ count data ws _ (HD.out.below ((below_alloc w _).alloc (by simp) _)) HO.out).mono ?_
  rintro e w1 ⟨rfl, hb1⟩
  replace hb1 : Below (w.heap.size + 2) ((w.alloc (.cells #[.int .i64 count, .slice p data.length c, .slice q ws.length m] 25)).alloc (.cells #[.int .i64 0, .slice none 0 0, .slice none 0 0] 25)) w1 := by simpa using hb1
  have hz1 := box2_size hb1
  obtain ⟨hB, hR⟩ := box2_cells hb1
  obtain ⟨c0, c1, c2⟩ := cells3 hB
  have HR : Hid _ := hR
  have HB : Hid _ := hB
  clear hB hR
  go_wp2
  obtain ⟨W, hW⟩ : ∃ W, W = (w.alloc (.cells #[.int .i64 count, .slice p data.length c, .slice q ws.length m] 25)).alloc (.cells #[.int .i64 0, .slice none 0 0, .slice none 0 0] 25) := ⟨_, rfl⟩
  have HDx : Hid (∀ w', Below (w.heap.size + 2) W w' → DiskIn w' (.agg #[.int .i64 count, .slice p data.length c, .slice q ws.length m]) count data ws) := by
    intro w' h
    rw [hW] at h
    exact HD.out.below (box2_below h)
  rw [← hW] at hb1
  have HS1 : (w1.drew.cell? ⟨w.heap.size, 0, none⟩ = some (.int .i64 count) ∧ w1.drew.cell? ⟨w.heap.size, 1, none⟩ = some (.slice p data.length c) ∧ w1.drew.cell? ⟨w.heap.size, 2, none⟩ = some (.slice q ws.length m)) ∧ Hid (Below (w.heap.size + 2) W w1.drew) := ⟨⟨c0, c1, c2⟩, hb1.drew⟩
  have HWz : Hid (w.heap.size + 2 ≤ W.heap.size) := by show _ ≤ _; rw [hW]; simp
  go_cut [7] from 11 (fun s7 w5 => ∃ B0 gd q' m' gs, s7 = .pointer (some ⟨B0, 0, none⟩) ∧ DiskOwn w5 (w.heap.size + 2) B0 gd count data q' m' ws gs ∧ Below (w.heap.size + 2) W w5)
  case first =>
    refine wp_region_noPanic ?_
    refine wp_region_held_drew (S := fun w' => (w'.cell? ⟨w.heap.size, 0, none⟩ = some (.int .i64 count) ∧ w'.cell? ⟨w.heap.size, 1, none⟩ = some (.slice p data.length c) ∧ w'.cell? ⟨w.heap.size, 2, none⟩ = some (.slice q ws.length m)) ∧ Hid (Below (w.heap.size + 2) W w')) (by kernel_rfl) HS1 (fun hS0 => ?_)
    have sz0 := Nat.le_trans HWz.out hS0.2.out.size
    clear HS1 c0 c1 c2 hb1
    refine takeH 0 17 (v := ?_) rfl rfl (by kernel_rfl) (by kernel_rfl) (by kernel_rfl) (fun _ _ _ h => h) (by rfl) ?_ (by assumption) ?_
    rotate_left
    · intro w hSw; go_simp; first | done | with_reducible rfl
    simp only [Act.put, List.setIfInBounds_toArray, List.set_cons_zero, List.set_cons_succ]
    refine takeH 1 18 (v := ?_) rfl rfl (by kernel_rfl) (by kernel_rfl) (by kernel_rfl) (fun _ _ _ h => h) (by rfl) ?_ (by assumption) ?_
    rotate_left
    · intro w hSw; go_simp; first | done | with_reducible rfl
    simp only [Act.put, List.setIfInBounds_toArray, List.set_cons_zero, List.set_cons_succ]
    refine takeH 2 19 (v := ?_) rfl rfl (by kernel_rfl) (by kernel_rfl) (by kernel_rfl) (fun _ _ _ h => h) (by rfl) ?_ (by assumption) ?_
    rotate_left
    · intro w hSw; go_simp; first | done | with_reducible rfl
    simp only [Act.put, List.setIfInBounds_toArray, List.set_cons_zero, List.set_cons_succ]
    refine takeH 4 21 (v := ?_) rfl rfl (by kernel_rfl) (by kernel_rfl) (by kernel_rfl) (fun _ _ _ h => h) (by rfl) ?_ (by assumption) ?_
    rotate_left
    · intro w hSw; go_simp; first | done | with_reducible rfl
    simp only [Act.put, List.setIfInBounds_toArray, List.set_cons_zero, List.set_cons_succ]
    refine wpAnyH_ready (rs := [3, 7]) (by kernel_rfl) (by simp) ?_
    refine AllReadyH.cons rfl (fun K hK => ?_) (AllReadyH.cons rfl (fun K hK => ?_) AllReadyH.nil)
    · go_simp
      refine (sectors_any _ count data ws _ (HDx.out _ hS0.2.out) HO.out).mono ?_
      rintro e ws1 ⟨gd, rfl, hg1, hg2, hb1⟩
      go_simp
      refine hK.out _ _ (keepS HWz.out hS0 hb1) (fun hS1 => ?_)
      clear hK K
      have sz1 := Nat.le_trans HWz.out hS1.2.out.size
      refine wpAnyH_ready (rs := [5, 7]) (by kernel_rfl) (by simp) ?_
      refine AllReadyH.cons rfl (fun K hK => ?_) (AllReadyH.cons rfl (fun K hK => ?_) AllReadyH.nil)
      · go_simp
        refine (waits_any _ count data ws _ (HDx.out _ hS1.2.out) HO.out).mono ?_
        rintro e ww2 ⟨q', m', gs, rfl, hp, hb2⟩
        go_simp
        refine hK.out _ _ (keepS HWz.out hS1 hb2) (fun hS2 => ?_)
        clear hK K
        have sz2 := Nat.le_trans HWz.out hS2.2.out.size
        refine takeH 6 23 (v := ?_) rfl rfl (by kernel_rfl) (by kernel_rfl) (by kernel_rfl) (fun _ _ _ h => h) (by rfl) ?_ (by assumption) ?_
        rotate_left
        · intro w hSw; go_simp; first | done | with_reducible rfl
        simp only [Act.put, List.setIfInBounds_toArray, List.set_cons_zero, List.set_cons_succ]
        refine wpAnyH_ready (rs := [7]) (by kernel_rfl) (by simp) ?_
        refine AllReadyH.cons rfl (fun K hK => ?_) AllReadyH.nil
        · have hb3 := below_alloc ww2 (.cells #[.int .i64 0, .slice none 0 0, .slice none 0 0] 25)
          go_simp
          refine hK.out _ _ (keepS HWz.out hS2 hb3) (fun hS3 => ?_)
          clear hK K
          have sz3 := Nat.le_trans HWz.out hS3.2.out.size
          refine wpAnyH_ready (rs := [8]) (by kernel_rfl) (by simp) ?_
          refine AllReadyH.cons rfl (fun K hK => ?_) AllReadyH.nil
          go_simp
          refine hK.out _ _ (keepA HWz.out hS2 _) (fun hSz => ?_)
          clear hK K
          refine wpAnyH_done (by kernel_rfl) (NoPanic.normal ?_) _
          go_wp2
          go_meet
          case rel =>
            have gY := ((hb2).block _ (lt_heap hg2)).trans hg2
            have pY := hp
            have aY := apart_after hp (lt_heap hg2)
            exact ⟨_, gd, q', m', gs, rfl, own_alloc gY (Nat.le_trans sz0 hg1) (pY.mono sz1) aY HBY.out sz2, hSz.2.out⟩
      · have hb2 := below_alloc ws1 (.cells #[.int .i64 0, .slice none 0 0, .slice none 0 0] 25)
        go_simp
        refine hK.out _ _ (keepS HWz.out hS1 hb2) (fun hS2 => ?_)
        clear hK K
        have sz2 := Nat.le_trans HWz.out hS2.2.out.size
        refine wpAnyH_ready (rs := [5]) (by kernel_rfl) (by simp) ?_
        refine AllReadyH.cons rfl (fun K hK => ?_) AllReadyH.nil
        · go_simp
          refine (waits_any _ count data ws _ (HDx.out _ hS2.2.out) HO.out).mono ?_
          rintro e ww3 ⟨q', m', gs, rfl, hp, hb3⟩
          go_simp
          refine hK.out _ _ (keepS HWz.out hS2 hb3) (fun hS3 => ?_)
          clear hK K
          have sz3 := Nat.le_trans HWz.out hS3.2.out.size
          refine takeH 6 23 (v := ?_) rfl rfl (by kernel_rfl) (by kernel_rfl) (by kernel_rfl) (fun _ _ _ h => h) (by rfl) ?_ (by assumption) ?_
          rotate_left
          · intro w hSw; go_simp; first | done | with_reducible rfl
          simp only [Act.put, List.setIfInBounds_toArray, List.set_cons_zero, List.set_cons_succ]
          refine wpAnyH_ready (rs := [8]) (by kernel_rfl) (by simp) ?_
          refine AllReadyH.cons rfl (fun K hK => ?_) AllReadyH.nil
          have hZ := ((hb3).block _ (by first | (rw [World.size_alloc]; omega) | (show _ < (w1.alloc _).heap.size; rw [World.size_alloc]; exact Nat.lt_succ_self _))).trans (heap_alloc_new _ _)
          obtain ⟨z0, z1, z2⟩ := cells3 hZ
          obtain ⟨y0, y1, y2⟩ := free3 hZ
          have HZ : Hid _ := hZ
          clear hZ
          go_simp
          refine hK.out _ _ (keep3 hS3 ⟨by have := sz1; omega, by exact sz1⟩ _ _ _) (fun hSz => ?_)
          clear hK K
          refine wpAnyH_done (by kernel_rfl) (NoPanic.normal ?_) _
          go_wp2
          go_meet
          case rel =>
            have gY := (((below_bt hb2 hb3)).block _ (lt_heap hg2)).trans hg2
            have pY := hp
            have aY := apart_after hp (Nat.lt_of_lt_of_le (lt_heap hg2) (hb2).size)
            exact ⟨_, gd, q', m', gs, rfl, own_set3 HZ.out sz1 gY (Nat.le_trans sz0 hg1) (pY.mono sz2) aY HBY.out, hSz.2.out⟩
    · have hb1 := below_alloc w1.drew (.cells #[.int .i64 0, .slice none 0 0, .slice none 0 0] 25)
      go_simp
      refine hK.out _ _ (keepS HWz.out hS0 hb1) (fun hS1 => ?_)
      clear hK K
      have sz1 := Nat.le_trans HWz.out hS1.2.out.size
      refine wpAnyH_ready (rs := [3]) (by kernel_rfl) (by simp) ?_
      refine AllReadyH.cons rfl (fun K hK => ?_) AllReadyH.nil
      · go_simp
        refine (sectors_any _ count data ws _ (HDx.out _ hS1.2.out) HO.out).mono ?_
        rintro e ws2 ⟨gd, rfl, hg1, hg2, hb2⟩
        go_simp
        refine hK.out _ _ (keepS HWz.out hS1 hb2) (fun hS2 => ?_)
        clear hK K
        have sz2 := Nat.le_trans HWz.out hS2.2.out.size
        refine wpAnyH_ready (rs := [5]) (by kernel_rfl) (by simp) ?_
        refine AllReadyH.cons rfl (fun K hK => ?_) AllReadyH.nil
        · go_simp
          refine (waits_any _ count data ws _ (HDx.out _ hS2.2.out) HO.out).mono ?_
          rintro e ww3 ⟨q', m', gs, rfl, hp, hb3⟩
          go_simp
          refine hK.out _ _ (keepS HWz.out hS2 hb3) (fun hS3 => ?_)
          clear hK K
          have sz3 := Nat.le_trans HWz.out hS3.2.out.size
          refine takeH 6 23 (v := ?_) rfl rfl (by kernel_rfl) (by kernel_rfl) (by kernel_rfl) (fun _ _ _ h => h) (by rfl) ?_ (by assumption) ?_
          rotate_left
          · intro w hSw; go_simp; first | done | with_reducible rfl
          simp only [Act.put, List.setIfInBounds_toArray, List.set_cons_zero, List.set_cons_succ]
          refine wpAnyH_ready (rs := [8]) (by kernel_rfl) (by simp) ?_
          refine AllReadyH.cons rfl (fun K hK => ?_) AllReadyH.nil
          have hZ := (((below_bt hb2 hb3)).block _ (by first | (rw [World.size_alloc]; omega) | (show _ < (w1.alloc _).heap.size; rw [World.size_alloc]; exact Nat.lt_succ_self _))).trans (heap_alloc_new _ _)
          obtain ⟨z0, z1, z2⟩ := cells3 hZ
          obtain ⟨y0, y1, y2⟩ := free3 hZ
          have HZ : Hid _ := hZ
          clear hZ
          go_simp
          refine hK.out _ _ (keep3 hS3 ⟨by have := sz0; omega, by exact sz0⟩ _ _ _) (fun hSz => ?_)
          clear hK K
          refine wpAnyH_done (by kernel_rfl) (NoPanic.normal ?_) _
          go_wp2
          go_meet
          case rel =>
            have gY := ((hb3).block _ (lt_heap hg2)).trans hg2
            have pY := hp
            have aY := apart_after hp (lt_heap hg2)
            exact ⟨_, gd, q', m', gs, rfl, own_set3 HZ.out sz0 gY (Nat.le_trans sz1 hg1) (pY.mono sz2) aY HBY.out, hSz.2.out⟩
  case rest =>
    obtain ⟨B0, gd, q', m', gs, rfl, hown, hbc⟩ := hcut
    have HX : Hid (∀ w', Below (w.heap.size + 2) W w' → w'.heap[w.heap.size + 1]? = some (.cells #[.int .i64 0, .slice none 0 0, .slice none 0 0] 25 (0, 0)) ∧ Below w.heap.size w w' ∧ w.heap.size + 2 ≤ w'.heap.size) := by
      intro w' h
      rw [hW] at h
      exact ⟨(box2_cells h).2, box2_below h, box2_size h⟩
    have HO0 : Hid (DiskOwn wc (w.heap.size + 2) B0 gd count data q' m' ws gs) := hown
    clear hown hW HD HDx HS1 HR HB c0 c1 c2 hb1 hz1
    go_wp2
    go_loopw [26] (fun i wr => ∃ k : Nat, ∃ dk wk qk mk gk, k ≤ l.length ∧ i = .int .i64 k ∧ Hid (doN count (data, ws) (l.take k) = .ok (dk, wk)) ∧ DiskOwn wr (w.heap.size + 2) B0 gd count dk qk mk wk gk ∧ Below (w.heap.size + 2) W wr) (fun i _ => l.length - (intOf i).toNat)
    case atStart => exact ⟨0, data, ws, q', m', gs, by omega, rfl, rfl, HO0.out, hbc⟩
    case round =>
      obtain ⟨k, dk, wk, qk, mk, gk, hk, rfl, HN, hok, hbk⟩ := hrel
      obtain ⟨hres, hbw, hsz⟩ := HX.out _ hbk
      by_cases hkl : k < l.length
      · obtain ⟨b, o, rfl⟩ := hl.addr (by omega)
        obtain ⟨e0, e1, pk, ck, e2, hbi⟩ := (hl.below hbw).at hkl
        have HST : Hid (doN count (data, ws) (l.take (k + 1)) = stepA count (dk, wk) (l.getD k (false, 0, []))) := doN_step hkl HN.out
        have hoky : Okay count dk wk := okay_do _ (s := (data, ws)) (s' := (dk, wk)) HO.out HN.out
        generalize l.getD k (false, 0, []) = y at *
        obtain ⟨fl, s, xs⟩ := y
        simp only at e0 e1 e2 hbi
        have HBI : Hid (BIn wr pk xs) := hbi
        have HOK : Hid (DiskOwn wr (w.heap.size + 2) B0 gd count dk qk mk wk gk) := hok
        have HOY : Hid (Okay count dk wk) := hoky
        have HRES : Hid _ := hres
        clear hbi hok hoky hres HN HO0 hl
        cases fl with
        | true =>
          have HE : Hid (stepA count (dk, wk) (true, s, xs) = .ok (settleN dk wk, [])) := rfl
          go_wp2_with fail
          refine (settle_any (w.heap.size + 2) B0 gd count dk qk mk wk gk _ (HOK.out.below (below_alloc wr _)) HOY.out (by simp; omega)).mono ?_
          rintro e w2 ⟨rfl, hd2, hb2⟩
          have hb3 := (hbk.alloc (by omega) _).trans hb2
          clear hb2
          go_wp2
          go_roundw
          case rel => exact ⟨k + 1, _, _, _, _, _, by omega, by go_num, HST.out.trans HE.out, hd2, hb3⟩
          case measure => simp [intOf]; omega
        | false =>
          by_cases g1 : 0 ≤ s ∧ s < count
          · by_cases g2 : xs.length = 128
            · by_cases g3 : wk.length < 4096
              · have HE : Hid (stepA count (dk, wk) (false, s, xs) = .ok (dk, wk ++ [(s, xs)])) := by
                  show stepA _ _ _ = _
                  simp [stepA, g1, g2, show ¬ 4096 ≤ wk.length from by omega]
                have G2 : Hid (xs.length = 128) := g2
                rw [g2] at e2
                clear g2
                go_wp2_with fail
                refine (wait_ok (w.heap.size + 2) B0 gd count dk qk mk wk gk s pk ck xs _ (HOK.out.below (below_alloc wr _)) g1 G2.out g3 (HBI.out.alloc _) (by simp; omega)).mono ?_
                rintro e w2 ⟨rfl, ⟨q2, m2, g2, hd2⟩, hb2⟩
                have hb3 := (hbk.alloc (by omega) _).trans hb2
                clear hb2
                go_wp2
                go_roundw
                case rel => exact ⟨k + 1, _, _, _, _, _, by omega, by go_num, HST.out.trans HE.out, hd2, hb3⟩
                case measure => simp [intOf]; omega
              · have HE : Hid (stepA count (dk, wk) (false, s, xs) = .error 4) := by
                  show stepA _ _ _ = _
                  simp [stepA, g1, g2, show 4096 ≤ wk.length from by omega]
                rw [g2] at e2
                clear g2
                have HF : Hid (doN count (data, ws) l = .error 4) := doN_fail (HST.out.trans HE.out)
                go_wp2_with fail
                refine (wait_many (w.heap.size + 2) B0 gd count dk qk mk wk gk s pk ck _ (HOK.out.below (below_alloc wr _)) g1 (by omega)).mono ?_
                rintro e w2 ⟨rfl, hb2⟩
                have hb3 := (hbk.alloc (by omega) _).trans (hb2.mono (by simp; omega))
                obtain ⟨hres2, hbw2, hsz2⟩ := HX.out _ hb3
                obtain ⟨r0, r1, r2⟩ := cells3 hres2
                obtain ⟨f0, f1, f2⟩ := free3 hres2
                clear hb2 hb3 hres2 HRES
                go_wp2
                (try simp only [Exit.inBlock, Exit.then])
                refine bodyPost_ret (v := .tuple #[zeroDisk, .int .i64 4]) ?_ rfl ⟨?_, ?_⟩
                · rw [results_cell_tmp rfl]
                  go_simp
                · rw [HF.out]
                  exact .err _ _
                · exact set3_below hbw2 (by omega) _ _ _
            · have HE : Hid (stepA count (dk, wk) (false, s, xs) = .error 8) := by
                show stepA _ _ _ = _
                simp [stepA, g1, g2]
              have HF : Hid (doN count (data, ws) l = .error 8) := doN_fail (HST.out.trans HE.out)
              go_wp2_with fail
              refine (wait_bad (w.heap.size + 2) B0 gd count dk qk mk wk gk s pk ck xs _ (HOK.out.below (below_alloc wr _)) g1 g2).mono ?_
              rintro e w2 ⟨rfl, hb2⟩
              have hb3 := (hbk.alloc (by omega) _).trans (hb2.mono (by simp; omega))
              obtain ⟨hres2, hbw2, hsz2⟩ := HX.out _ hb3
              obtain ⟨r0, r1, r2⟩ := cells3 hres2
              obtain ⟨f0, f1, f2⟩ := free3 hres2
              clear hb2 hb3 hres2 HRES
              go_wp2
              (try simp only [Exit.inBlock, Exit.then])
              refine bodyPost_ret (v := .tuple #[zeroDisk, .int .i64 8]) ?_ rfl ⟨?_, ?_⟩
              · rw [results_cell_tmp rfl]
                go_simp
              · rw [HF.out]
                exact .err _ _
              · exact set3_below hbw2 (by omega) _ _ _
          · have HE : Hid (stepA count (dk, wk) (false, s, xs) = .error 21) := by
              show stepA _ _ _ = _
              simp [stepA, g1]
            have HF : Hid (doN count (data, ws) l = .error 21) := doN_fail (HST.out.trans HE.out)
            go_wp2_with fail
            refine (wait_range (w.heap.size + 2) B0 gd count dk qk mk wk gk s (.slice pk xs.length ck) _ (HOK.out.below (below_alloc wr _)) g1).mono ?_
            rintro e w2 ⟨rfl, hb2⟩
            have hb3 := (hbk.alloc (by omega) _).trans (hb2.mono (by simp; omega))
            obtain ⟨hres2, hbw2, hsz2⟩ := HX.out _ hb3
            obtain ⟨r0, r1, r2⟩ := cells3 hres2
            obtain ⟨f0, f1, f2⟩ := free3 hres2
            clear hb2 hb3 hres2 HRES
            go_wp2
            (try simp only [Exit.inBlock, Exit.then])
            refine bodyPost_ret (v := .tuple #[zeroDisk, .int .i64 21]) ?_ rfl ⟨?_, ?_⟩
            · rw [results_cell_tmp rfl]
              go_simp
            · rw [HF.out]
              exact .err _ _
            · exact set3_below hbw2 (by omega) _ _ _
      · obtain rfl : k = l.length := by omega
        obtain ⟨c0, c1, c2⟩ := hok.cells
        obtain ⟨r0, r1, r2⟩ := cells3 hres
        obtain ⟨f0, f1, f2⟩ := free3 hres
        have HN' : Hid (doN count (data, ws) l = .ok (dk, wk)) := by have := HN.out; rwa [List.take_length] at this
        have HF : Hid (DiskNew wr w.heap.size (.agg #[.int .i64 count, .slice (some ⟨gd, 0, none⟩) dk.length dk.length, .slice qk wk.length mk]) count dk wk) := hok.toNew.mono (by omega)
        have HR : Hid _ := hres
        clear hok hres HN HO0 hl
        go_wp2
        (try simp only [Exit.inBlock, Exit.then])
        refine bodyPost_ret (v := .tuple #[.agg #[.int .i64 count, .slice (some ⟨gd, 0, none⟩) dk.length dk.length, .slice qk wk.length mk], .int .i64 0]) ?_ rfl ⟨?_, ?_⟩
        · rw [results_cell_tmp rfl]
          go_simp
        · rw [HN'.out]
          exact .ok _ _ _ _ (HF.out.set3 HR.out _ _ _)
        · exact set3_below hbw (by omega) _ _ _
end Go.Proofs.YthifpelappedcaaGreatDoor
namespace Go.Proofs.YthifpelappedcaaGreatDoor
set_option maxRecDepth 8000
open Go.RowKit Go.WideShapes

theorem doN_one (count : Int) (s : List Nat × Puts) (a : Bool × Int × List Nat) : doN count s [a] = stepA count s a := by
  simp only [doN]
  cases stepA count s a <;> rfl
/-- One act in a block of its own. -/
theorem acts_one {X : World} {H : Nat} (hH : H = X.heap.size) {f : Bool} {s : Int} {p : Option Addr} {c : Nat} {xs : List Nat} {t : TypeId} (hb : BIn X p xs) (h1 : xs.length ≤ c) (h2 : c ≤ maxLen) (h3 : p = none → c = 0) :
    ActsIn (X.alloc (.cells #[.bool f, .int .i64 s, .slice p xs.length c] t)) (some ⟨H, 0, none⟩) [(f, s, xs)] := by
  subst hH
  intro _
  have hh := heap_alloc_new X (.cells #[.bool f, .int .i64 s, .slice p xs.length c] t)
  refine ⟨X.heap.size, 0, rfl, fun i hi => ?_⟩
  obtain rfl : i = 0 := by simpa using hi
  refine ⟨cell_of_row _ _ _ _ _ _ hh, cell_of_row _ _ _ _ _ _ hh, _, cell_of_row _ _ _ _ _ _ hh, ⟨p, c, rfl, hb.alloc _, h1, h2, h3⟩⟩

end Go.Proofs.YthifpelappedcaaGreatDoor
namespace Go.Proofs.YthifpelappedcaaGreatDoor
set_option maxRecDepth 8000
open Go.RowKit Go.WideShapes
attribute [local go_sem ↓] Go.wp_at_zero Go.wp_at_succ

set_option maxHeartbeats 1000000 in
theorem crash_bad (v l : Value) (count : Int) (data : List Nat) (ws : Puts) (w : World) (hd : DiskIn w v count data ws) (ho : ¬ Okay count data ws) :
    Calls Tryz.prog 39 #[v, l] w fun e w' => e = .returned (.tuple #[zeroDisk, .int .i64 20]) ∧ Below w.heap.size w w' := by
  obtain ⟨p, c, q, m, rfl, _⟩ := hd.parts
  have HD : Hid _ := hd
  clear hd
  go_enter Tryz.func39, Tryz.ntmps39
  go_wp2_with fail
  refine (check_bad _ count data ws _ (HD.out.below ((below_alloc w _).alloc (by simp) _)) ho).mono ?_
  rintro e w1 ⟨rfl, hb1⟩
  replace hb1 : Below (w.heap.size + 2) ((w.alloc (.cells #[.int .i64 count, .slice p data.length c, .slice q ws.length m] 25)).alloc (.cells #[.int .i64 0, .slice none 0 0, .slice none 0 0] 25)) w1 := by simpa using hb1
  obtain ⟨hB, hR⟩ := box2_cells hb1
  obtain ⟨c0, c1, c2⟩ := cells3 hR
  obtain ⟨f0, f1, f2⟩ := free3 hR
  clear hB hR
  go_wp2
  (try simp only [Exit.inBlock, Exit.then])
  refine bodyPost_ret (v := .tuple #[zeroDisk, .int .i64 20]) ?_ rfl ⟨rfl, ?_⟩
  · rw [results_cell_tmp rfl]
    go_simp
  · exact set3_below (box2_below hb1) (by omega) _ _ _

theorem BoolsIn.addr {w : World} {q : Option Addr} {l : List Bool} (h : BoolsIn w q l) (hw : 0 < l.length) : ∃ b o, q = some ⟨b, o, none⟩ := by
  obtain ⟨b, o, e, _⟩ := h hw
  exact ⟨b, o, e⟩
theorem BoolsIn.at {w : World} {b o : Nat} {l : List Bool} (h : BoolsIn w (some ⟨b, o, none⟩) l) {k : Nat} (hk : k < l.length) : w.cell? ⟨b, o + k, none⟩ = some (.bool (l.getD k false)) := by
  obtain ⟨b', o', e, hc⟩ := h (by omega)
  simp only [Option.some.injEq, Addr.mk.injEq, and_true] at e
  obtain ⟨rfl, rfl⟩ := e
  exact hc k hk
theorem puts_bytes {w : World} {q : Option Addr} {ws : Puts} (h : PutsIn w q ws) : ∀ y ∈ ws, ∀ c ∈ y.2, c < 256 := by
  intro y hy
  obtain ⟨i, hi, rfl⟩ := List.getElem_of_mem hy
  obtain ⟨b, o, rfl⟩ := h.addr (by omega)
  obtain ⟨_, p, c, _, hb, _⟩ := h.at hi
  have := hb.2
  simpa [List.getD, List.getElem?_eq_getElem hi] using this
/-- The disk that is being made: its block, its sectors. -/
structure Half (w : World) (base B0 gd : Nat) (count : Int) (n : Nat) (data : List Nat) : Prop where
  box : w.heap[B0]? = some (.cells #[.int .i64 count, .slice (some ⟨gd, 0, none⟩) n n, .slice none 0 0] 25 (0, 0))
  hB : base ≤ B0
  hgd : base ≤ gd
  drow : w.heap[gd]? = some (.cells (Bs data).toArray 5 (0, 0))
theorem Half.ne {w : World} {base B0 gd : Nat} {count : Int} {n : Nat} {data : List Nat} (h : Half w base B0 gd count n data) : B0 ≠ gd := by
  intro e
  have h1 := h.box
  rw [e, h.drow] at h1
  simp at h1
theorem Half.below {w w' : World} {base B0 gd : Nat} {count : Int} {n : Nat} {data : List Nat} (h : Half w base B0 gd count n data) (hb : Below w.heap.size w w') : Half w' base B0 gd count n data :=
  ⟨(hb.block _ (lt_heap h.box)).trans h.box, h.hB, h.hgd, (hb.block _ (lt_heap h.drow)).trans h.drow⟩

set_option maxHeartbeats 2000000 in
theorem crash_ok (v : Value) (count : Int) (data : List Nat) (ws : Puts) (w : World) (hd : DiskIn w v count data ws) (ho : Okay count data ws) (ql : Option Addr) (ml : Nat) (keep : List Bool) (hl : BoolsIn w ql keep) (hll : keep.length ≤ 9223372036854775807) :
    Calls Tryz.prog 39 #[v, .slice ql keep.length ml] w fun e w' => (∃ v', e = .returned (.tuple #[v', .int .i64 0]) ∧ DiskNew w' w.heap.size v' count (crashN data ws keep) []) ∧ Below w.heap.size w w' := by
  obtain ⟨p, c, q, m, rfl, hb, _, _, _, hqp, hqm, hqmm, _⟩ := hd.parts
  have HBY : Hid (∀ c ∈ data, c < 256) := hb.2
  have HQ : Hid (PutsIn w q ws) := hqp
  have HPB : Hid (∀ y ∈ ws, ∀ c ∈ y.2, c < 256) := puts_bytes hqp
  have hfew := ho.few
  have hhi := ho.hi
  have hlen := ho.len
  have HLEN : Hid ((data.length : Int) = count * 128) := hlen
  clear hb hqp hlen
  have HD : Hid _ := hd
  have HO : Hid _ := ho
  clear hd ho
  go_enter Tryz.func39, Tryz.ntmps39
  go_wp2_with fail
  refine (check_ok _ count data ws _ (HD.out.below ((below_alloc w _).alloc (by simp) _)) HO.out).mono ?_
  rintro e w1 ⟨rfl, hb1⟩
  replace hb1 : Below (w.heap.size + 2) ((w.alloc (.cells #[.int .i64 count, .slice p data.length c, .slice q ws.length m] 25)).alloc (.cells #[.int .i64 0, .slice none 0 0, .slice none 0 0] 25)) w1 := by simpa using hb1
  have hz1 := box2_size hb1
  obtain ⟨hB, hR⟩ := box2_cells hb1
  obtain ⟨c0, c1, c2⟩ := cells3 hB
  clear hB hR
  go_wp2
  obtain ⟨W, hW⟩ : ∃ W, W = (w.alloc (.cells #[.int .i64 count, .slice p data.length c, .slice q ws.length m] 25)).alloc (.cells #[.int .i64 0, .slice none 0 0, .slice none 0 0] 25) := ⟨_, rfl⟩
  have HDx : Hid (∀ w', Below (w.heap.size + 2) W w' → DiskIn w' (.agg #[.int .i64 count, .slice p data.length c, .slice q ws.length m]) count data ws) := by
    intro w' h
    rw [hW] at h
    exact HD.out.below (box2_below h)
  rw [← hW] at hb1
  have HS1 : (w1.drew.cell? ⟨w.heap.size, 0, none⟩ = some (.int .i64 count) ∧ w1.drew.cell? ⟨w.heap.size, 1, none⟩ = some (.slice p data.length c) ∧ w1.drew.cell? ⟨w.heap.size, 2, none⟩ = some (.slice q ws.length m)) ∧ Hid (Below (w.heap.size + 2) W w1.drew) := ⟨⟨c0, c1, c2⟩, hb1.drew⟩
  have HWz : Hid (w.heap.size + 2 ≤ W.heap.size) := by show _ ≤ _; rw [hW]; simp
  go_cut [7] from 10 (fun s7 w5 => ∃ B0 gd, s7 = .pointer (some ⟨B0, 0, none⟩) ∧ Half w5 (w.heap.size + 2) B0 gd count data.length data ∧ Below (w.heap.size + 2) W w5)
  case first =>
    refine wp_region_noPanic ?_
    refine wp_region_held_drew (S := fun w' => (w'.cell? ⟨w.heap.size, 0, none⟩ = some (.int .i64 count) ∧ w'.cell? ⟨w.heap.size, 1, none⟩ = some (.slice p data.length c) ∧ w'.cell? ⟨w.heap.size, 2, none⟩ = some (.slice q ws.length m)) ∧ Hid (Below (w.heap.size + 2) W w')) (by kernel_rfl) HS1 (fun hS0 => ?_)
    have sz0 := Nat.le_trans HWz.out hS0.2.out.size
    clear HS1 c0 c1 c2 hb1
    refine takeH 0 16 (v := ?_) rfl rfl (by kernel_rfl) (by kernel_rfl) (by kernel_rfl) (fun _ _ _ h => h) (by rfl) ?_ (by assumption) ?_
    rotate_left
    · intro w hSw; go_simp; first | done | with_reducible rfl
    simp only [Act.put, List.setIfInBounds_toArray, List.set_cons_zero, List.set_cons_succ]
    refine takeH 1 17 (v := ?_) rfl rfl (by kernel_rfl) (by kernel_rfl) (by kernel_rfl) (fun _ _ _ h => h) (by rfl) ?_ (by assumption) ?_
    rotate_left
    · intro w hSw; go_simp; first | done | with_reducible rfl
    simp only [Act.put, List.setIfInBounds_toArray, List.set_cons_zero, List.set_cons_succ]
    refine takeH 2 18 (v := ?_) rfl rfl (by kernel_rfl) (by kernel_rfl) (by kernel_rfl) (fun _ _ _ h => h) (by rfl) ?_ (by assumption) ?_
    rotate_left
    · intro w hSw; go_simp; first | done | with_reducible rfl
    simp only [Act.put, List.setIfInBounds_toArray, List.set_cons_zero, List.set_cons_succ]
    refine wpAnyH_ready (rs := [3, 5]) (by kernel_rfl) (by simp) ?_
    refine AllReadyH.cons rfl (fun K hK => ?_) (AllReadyH.cons rfl (fun K hK => ?_) AllReadyH.nil)
    · go_simp
      refine (sectors_any _ count data ws _ (HDx.out _ hS0.2.out) HO.out).mono ?_
      rintro e ws1 ⟨gd, rfl, hg1, hg2, hb1⟩
      go_simp
      refine hK.out _ _ (keepS HWz.out hS0 hb1) (fun hS1 => ?_)
      clear hK K
      have sz1 := Nat.le_trans HWz.out hS1.2.out.size
      refine takeH 4 20 (v := ?_) rfl rfl (by kernel_rfl) (by kernel_rfl) (by kernel_rfl) (fun _ _ _ h => h) (by rfl) ?_ (by assumption) ?_
      rotate_left
      · intro w hSw; go_simp; first | done | with_reducible rfl
      simp only [Act.put, List.setIfInBounds_toArray, List.set_cons_zero, List.set_cons_succ]
      refine wpAnyH_ready (rs := [5]) (by kernel_rfl) (by simp) ?_
      refine AllReadyH.cons rfl (fun K hK => ?_) AllReadyH.nil
      go_simp
      refine hK.out _ _ (keepS HWz.out hS1 (below_alloc ws1 _)) (fun hS2 => ?_)
      clear hK K
      refine wpAnyH_ready (rs := [6]) (by kernel_rfl) (by simp) ?_
      refine AllReadyH.cons rfl (fun K hK => ?_) AllReadyH.nil
      go_simp
      refine hK.out _ _ (keepA HWz.out hS1 _) (fun hSz => ?_)
      clear hK K
      refine wpAnyH_done (by kernel_rfl) (NoPanic.normal ?_) _
      go_wp2
      go_meet
      case rel =>
        exact ⟨_, gd, rfl, ⟨heap_alloc_new _ _, sz1, Nat.le_trans sz0 hg1, ((below_alloc ws1 _).block _ (lt_heap hg2)).trans hg2⟩, hSz.2.out⟩
    · have hb1 := below_alloc w1.drew (.cells #[.int .i64 0, .slice none 0 0, .slice none 0 0] 25)
      go_simp
      refine hK.out _ _ (keepS HWz.out hS0 hb1) (fun hS1 => ?_)
      clear hK K
      refine wpAnyH_ready (rs := [3]) (by kernel_rfl) (by simp) ?_
      refine AllReadyH.cons rfl (fun K hK => ?_) AllReadyH.nil
      go_simp
      refine (sectors_any _ count data ws _ (HDx.out _ hS1.2.out) HO.out).mono ?_
      rintro e ws2 ⟨gd, rfl, hg1, hg2, hb2⟩
      go_simp
      refine hK.out _ _ (keepS HWz.out hS1 hb2) (fun hS2 => ?_)
      clear hK K
      have sz1 := Nat.le_trans HWz.out hS1.2.out.size
      refine takeH 4 20 (v := ?_) rfl rfl (by kernel_rfl) (by kernel_rfl) (by kernel_rfl) (fun _ _ _ h => h) (by rfl) ?_ (by assumption) ?_
      rotate_left
      · intro w hSw; go_simp; first | done | with_reducible rfl
      simp only [Act.put, List.setIfInBounds_toArray, List.set_cons_zero, List.set_cons_succ]
      refine wpAnyH_ready (rs := [6]) (by kernel_rfl) (by simp) ?_
      refine AllReadyH.cons rfl (fun K hK => ?_) AllReadyH.nil
      have hZ : ws2.heap[w1.heap.size]? = some (.cells #[.int .i64 0, .slice none 0 0, .slice none 0 0] 25 (0, 0)) := (hb2.block _ (by show _ < (w1.alloc _).heap.size; rw [World.size_alloc]; exact Nat.lt_succ_self _)).trans (heap_alloc_new w1 _)
      obtain ⟨z0, z1, z2⟩ := cells3 hZ
      obtain ⟨y0, y1, y2⟩ := free3 hZ
      have HZ : Hid _ := hZ
      clear hZ
      have sz0' : w.heap.size + 2 ≤ w1.heap.size := sz0
      go_simp
      refine hK.out _ _ (keep3 hS2 ⟨by omega, sz0'⟩ _ _ _) (fun hSz => ?_)
      clear hK K
      refine wpAnyH_done (by kernel_rfl) (NoPanic.normal ?_) _
      go_wp2
      go_meet
      case rel =>
        refine ⟨_, gd, rfl, ⟨set3_same _ _ _ _ _ _ _ _ _ HZ.out, sz0', Nat.le_trans sz1 hg1, (set3_other _ _ gd _ _ _ ?_).trans hg2⟩, hSz.2.out⟩
        rintro rfl
        have h2 := HZ.out
        rw [hg2] at h2
        simp at h2
  case rest =>
    obtain ⟨B0, gd, rfl, hhf, hbc⟩ := hcut
    have HX : Hid (∀ w', Below (w.heap.size + 2) W w' → w'.heap[w.heap.size]? = some (.cells #[.int .i64 count, .slice p data.length c, .slice q ws.length m] 25 (0, 0)) ∧ w'.heap[w.heap.size + 1]? = some (.cells #[.int .i64 0, .slice none 0 0, .slice none 0 0] 25 (0, 0)) ∧ Below w.heap.size w w' ∧ w.heap.size + 2 ≤ w'.heap.size) := by
      intro w' h
      rw [hW] at h
      exact ⟨(box2_cells h).1, (box2_cells h).2, box2_below h, box2_size h⟩
    have HO0 : Hid (Half wc (w.heap.size + 2) B0 gd count data.length data) := hhf
    obtain ⟨c0, c1, c2⟩ := cells3 (HX.out _ hbc).1
    clear hhf hW HD HDx HS1 hb1 hz1
    go_wp2
    go_loopw [24] (fun i wr => ∃ k : Nat, k ≤ ws.length ∧ i = .int .i64 k ∧ Half wr (w.heap.size + 2) B0 gd count data.length (crashK data ws keep k) ∧ Below (w.heap.size + 2) W wr) (fun i _ => ws.length - (intOf i).toNat)
    case atStart => exact ⟨0, by omega, rfl, HO0.out, hbc⟩
    case round =>
      obtain ⟨k, hk, rfl, hok, hbk⟩ := hrel
      obtain ⟨hbx, hres, hbw, hsz⟩ := HX.out _ hbk
      obtain ⟨b0, b1, b2⟩ := cells3 hok.box
      by_cases hkl : k < ws.length
      · have hq := HQ.out.below hbw
        obtain ⟨b, o, rfl⟩ := hq.addr (by omega)
        obtain ⟨e1, pk, ck, e2, hbi⟩ := hq.at2 hkl
        have hwt := HO.out.wait hkl
        have HSc : Hid (crashK data ws keep (k + 1) = if keep.getD k false = true then putS (crashK data ws keep k) (ws.getD k (0, [])) else crashK data ws keep k) := rfl
        have HL : Hid ((crashK data ws keep k).length = data.length) := crashK_len HO.out keep k hk
        have hkeep : k < keep.length → ∃ b' o', ql = some ⟨b', o', none⟩ ∧ wr.cell? ⟨b', o' + k, none⟩ = some (.bool (keep.getD k false)) := by
          intro h
          obtain ⟨b', o', rfl⟩ := hl.addr (by omega)
          exact ⟨b', o', rfl, (hl.below hbw).at h⟩
        have hkn : ¬ k < keep.length → keep.getD k false = false := by
          intro h
          simp [List.getD, List.getElem?_eq_none (show keep.length ≤ k by omega)]
        rw [hwt.2.2] at e2
        generalize ws.getD k (0, []) = y at *
        obtain ⟨s, xs⟩ := y
        simp only at e1 e2 hbi hwt
        obtain ⟨hw1, hw2, hw3⟩ := hwt
        obtain ⟨n, rfl⟩ := Int.eq_ofNat_of_zero_le hw1
        have HXL : Hid (xs.length = 128) := hw3
        have hnl : (n + 1) * 128 ≤ data.length := by have := HLEN.out; omega
        have HBI : Hid (BIn wr pk xs) := hbi
        have HOK : Hid (Half wr (w.heap.size + 2) B0 gd count data.length (crashK data ws keep k)) := hok
        clear hq hw3 hbi hok hbx hres HO0 hl
        by_cases hkk : k < keep.length
        · obtain ⟨b', o', rfl, ek⟩ := hkeep hkk
          have hbl : b' < wr.heap.size := World.block_lt_of_cell? _ _ ek
          clear hkeep hkn
          generalize keep.getD k false = kb at *
          cases kb with
          | true =>
            obtain ⟨bp, op, rfl⟩ := HBI.out.addr (by rw [HXL.out]; omega)
            have hlt := lt_heap HOK.out.drow
            have hn1 : some B0 ≠ some gd := fun e => HOK.out.ne (by simpa using e)
            have HWs : Hid (∀ j v, (Bs xs)[j]? = some v → (wr.alloc (.cells #[.int .i64 n, .slice (some ⟨bp, op, none⟩) 128 ck] 45)).drew.cell? ((⟨bp, op, none⟩ : Addr).add j) = some v) := bin_news (HBI.out.alloc _)
            have HC : Hid ((wr.alloc (.cells #[.int .i64 n, .slice (some ⟨bp, op, none⟩) 128 ck] 45)).cell? ⟨wr.heap.size, 0, none⟩ = some (.int .i64 n) ∧ (wr.alloc (.cells #[.int .i64 n, .slice (some ⟨bp, op, none⟩) 128 ck] 45)).cell? ⟨wr.heap.size, 1, none⟩ = some (.slice (some ⟨bp, op, none⟩) 128 ck)) := put_cells (Below.refl _ _)
            have HH : Hid (Half (wr.alloc (.cells #[.int .i64 n, .slice (some ⟨bp, op, none⟩) 128 ck] 45)) (w.heap.size + 2) B0 gd count data.length (crashK data ws keep k)) := HOK.out.below (below_alloc wr _)
            have r1' : Hid ((wr.alloc (.cells #[.int .i64 n, .slice (some ⟨bp, op, none⟩) 128 ck] 45)).cell? ⟨B0, 1, none⟩ = some (.slice (some ⟨gd, 0, none⟩) data.length data.length)) := (cells3 HH.out.box).2.1
            have hl2 : Hid ((Bs xs).length = Nat.min 128 128) := by show _ = _; rw [Bs_len, HXL.out]; rfl
            have hf : Hid (n * 128 + (Bs xs).length ≤ (Bs (crashK data ws keep k)).length) := by show _ ≤ _; rw [Bs_len, Bs_len, HXL.out, HL.out]; omega
            have hs2 : Hid (splice (Bs (crashK data ws keep k)) (n * 128) (Bs xs) = Bs (crashK data ws keep (k + 1))) := by show _ = _; rw [Bs_splice, HSc.out]; rfl
            have hn2 : Hid (some wr.heap.size ≠ some gd) := by show _ ≠ _; intro e; simp only [Option.some.injEq] at e; omega
            have hn1' : Hid (some B0 ≠ some gd) := hn1
            have hbk1 : Below (w.heap.size + 2) W (wr.alloc (.cells #[.int .i64 n, .slice (some ⟨bp, op, none⟩) 128 ck] 45)) := hbk.alloc (by omega) _
            clear hn1 HL HSc HBI HOK hbk hbw
            go_wp2
            clear e1 e2 b0 b1 b2 ek
            have hz2 : w.heap.size + 2 ≤ (wr.alloc (.cells #[.int .i64 n, .slice (some ⟨bp, op, none⟩) 128 ck] 45)).heap.size := by rw [World.size_alloc]; omega
            obtain ⟨w2, hw2⟩ : ∃ w2, w2 = wr.alloc (.cells #[.int .i64 n, .slice (some ⟨bp, op, none⟩) 128 ck] 45) := ⟨_, rfl⟩
            rw [← hw2] at HWs HC HH hbk1 r1' hz2 ⊢
            clear hw2
            have HC' := HC
            replace HC := HC.out
            have r1 := r1'.out
            go_region_held3 (fun w' => (w'.cell? ⟨wr.heap.size, 0, none⟩ = some (.int .i64 n) ∧ w'.cell? ⟨wr.heap.size, 1, none⟩ = some (.slice (some ⟨bp, op, none⟩) 128 ck)) ∧ w'.cell? ⟨B0, 1, none⟩ = some (.slice (some ⟨gd, 0, none⟩) data.length data.length)) (first | go_keep | exact ⟨c2_grown HC'.out (grown_trans (grown_drew _ _) hg2) hn2.out, (grown_trans (grown_drew _ _) hg2).cell r1'.out hn1'.out⟩)
              (first
                | (go_at_call 87; refine (sector_any gd 0 data.length data.length n _ (by omega) hnl (by omega)).mono ?_; rintro e w1 ⟨rfl, rfl⟩)
                | (refine step_copy_grown (by rfl) (.tmp 43) (.tmp 45) 22 22 (by rfl) 5 Tryz.underlying22 size_u8 gd (n * 128) ⟨bp, op, none⟩ 128 (data.length - n * 128) 128 ck (by simp [Act.eval]) (by simp [Act.eval]) (Bs (crashK data ws keep k)) 5 HH.out.drow (Bs xs) hl2.out HWs.out hf.out (Bs_oneCell _) ?_; intro w3 hrow2 hg2)
                | fail)
            have hg3 := grown_trans (grown_drew w2 _) hg2
            have hh3 : Half w3 (w.heap.size + 2) B0 gd count data.length (crashK data ws keep (k + 1)) := ⟨(hg3.block _ (lt_heap HH.out.box) hn1'.out).trans HH.out.box, HH.out.hB, HH.out.hgd, by rw [← hs2.out]; exact hrow2.out⟩
            have hb3 : Below (w.heap.size + 2) W w3 := hbk1.trans (below_of_grown hg3 hz2 HH.out.hgd)
            have HH3 : Hid _ := hh3
            clear hrow2 hg2 hg3 HH HWs hh3
            go_wp2
            go_roundw
            case rel => exact ⟨k + 1, by omega, by go_num, HH3.out, hb3⟩
            case measure => simp [intOf]; omega
          | false =>
            have HE : Hid (crashK data ws keep (k + 1) = crashK data ws keep k) := by show _ = _; rw [HSc.out]; simp
            go_wp2
            go_roundw
            case rel => exact ⟨k + 1, by omega, by go_num, by rw [HE.out]; exact HOK.out.below (below_alloc wr _), hbk.alloc (by omega) _⟩
            case measure => simp [intOf]; omega
        · have hkf := hkn hkk
          have HE : Hid (crashK data ws keep (k + 1) = crashK data ws keep k) := by show _ = _; rw [HSc.out, hkf]; simp
          have hdk : decide ((k : Int) < (keep.length : Int)) = false := by simp; omega
          clear hkeep hkn hkf
          go_wp2
          go_roundw
          case rel => exact ⟨k + 1, by omega, by go_num, by rw [HE.out]; exact HOK.out.below (below_alloc wr _), hbk.alloc (by omega) _⟩
          case measure => simp [intOf]; omega
      · obtain rfl : k = ws.length := by omega
        obtain ⟨r0, r1, r2⟩ := cells3 hres
        obtain ⟨f0, f1, f2⟩ := free3 hres
        have HLc : Hid ((crashN data ws keep).length = data.length) := crashK_len HO.out keep _ (Nat.le_refl _)
        have HF : Hid (DiskNew wr w.heap.size (.agg #[.int .i64 count, .slice (some ⟨gd, 0, none⟩) data.length data.length, .slice none 0 0]) count (crashN data ws keep) []) :=
          ⟨⟨gd, none, 0, [], by rw [HLc.out]; rfl, by have := hok.hgd; omega, hok.drow, putsOwn_nil _ _, fun i hi => absurd hi (by simp)⟩, crashK_bytes HBY.out (fun y hy => HPB.out y hy) _ (Nat.le_refl _)⟩
        have HR : Hid _ := hres
        clear hok hres HO0 hl hbx
        go_wp2
        (try simp only [Exit.inBlock, Exit.then])
        refine bodyPost_ret (v := .tuple #[.agg #[.int .i64 count, .slice (some ⟨gd, 0, none⟩) data.length data.length, .slice none 0 0], .int .i64 0]) ?_ rfl ⟨?_, ?_⟩
        · rw [results_cell_tmp rfl]
          go_simp
        · exact ⟨_, rfl, HF.out.set3 HR.out _ _ _⟩
        · exact set3_below hbw (by omega) _ _ _
end Go.Proofs.YthifpelappedcaaGreatDoor
namespace Go.Proofs.YthifpelappedcaaGreatDoor
set_option maxRecDepth 8000
open Go.RowKit Go.WideShapes

/-- What is wrong with a disk, a sector. -/
noncomputable def errS (count : Int) (data : List Nat) (ws : Puts) (n : Int) : Int := if errC count data ws = 0 then (if 0 ≤ n ∧ n < count then 0 else 21) else 20
theorem errS_bad {count : Int} {data : List Nat} {ws : Puts} (n : Int) (h : ¬ Okay count data ws) : errS count data ws n = 20 := by simp [errS, errC_bad h]
theorem errS_range {count : Int} {data : List Nat} {ws : Puts} {n : Int} (h : Okay count data ws) (hn : ¬ (0 ≤ n ∧ n < count)) : errS count data ws n = 21 := by simp [errS, errC_ok h, hn]
theorem errS_ok {count : Int} {data : List Nat} {ws : Puts} {n : Int} (h : Okay count data ws) (hn : 0 ≤ n ∧ n < count) : errS count data ws n = 0 := by simp [errS, errC_ok h, hn]

set_option maxHeartbeats 1000000 in
theorem checkSector_any (v : Value) (n : Int) (count : Int) (data : List Nat) (ws : Puts) (w : World) (hd : DiskIn w v count data ws) :
    Calls Tryz.prog 170 #[v, .int .i64 n] w fun e w' => e = .returned (.int .i64 (errS count data ws n)) ∧ Below w.heap.size w w' := by
  obtain ⟨p, c, q, m, rfl, _⟩ := hd.parts
  have HD : Hid _ := hd
  clear hd
  by_cases ho : Okay count data ws
  · by_cases hn : 0 ≤ n ∧ n < count
    · have HE : Hid _ := errS_ok ho hn
      go_enter Tryz.func170, Tryz.ntmps170
      go_wp2_with fail
      refine (check_ok _ count data ws _ (HD.out.below (below_alloc w _)) ho).mono ?_
      rintro e w1 ⟨rfl, hb1⟩
      replace hb1 : Below (w.heap.size + 1) (w.alloc (.cells #[.int .i64 count, .slice p data.length c, .slice q ws.length m] 25)) w1 := by simpa using hb1
      obtain ⟨c0, c1, c2⟩ := box_cells hb1
      go_wp2_with (go_at_call 102; refine (has_any count n _ _ _).mono ?_; rintro e w2 ⟨rfl, ob, rfl⟩; rw [decide_eq_true hn])
      go_ret
      exact ⟨by rw [HE.out]; rfl, box_below (hb1.alloc (by have := box_size hb1; omega) _)⟩
    · have HE : Hid _ := errS_range ho hn
      go_enter Tryz.func170, Tryz.ntmps170
      go_wp2_with fail
      refine (check_ok _ count data ws _ (HD.out.below (below_alloc w _)) ho).mono ?_
      rintro e w1 ⟨rfl, hb1⟩
      replace hb1 : Below (w.heap.size + 1) (w.alloc (.cells #[.int .i64 count, .slice p data.length c, .slice q ws.length m] 25)) w1 := by simpa using hb1
      obtain ⟨c0, c1, c2⟩ := box_cells hb1
      go_wp2_with (go_at_call 102; refine (has_any count n _ _ _).mono ?_; rintro e w2 ⟨rfl, ob, rfl⟩; rw [decide_eq_false hn])
      go_ret
      exact ⟨by rw [HE.out]; rfl, box_below (hb1.alloc (by have := box_size hb1; omega) _)⟩
  · have HE : Hid _ := errS_bad n ho
    go_enter Tryz.func170, Tryz.ntmps170
    go_wp2_with fail
    refine (check_bad _ count data ws _ (HD.out.below (below_alloc w _)) ho).mono ?_
    rintro e w1 ⟨rfl, hb1⟩
    replace hb1 : Below (w.heap.size + 1) (w.alloc (.cells #[.int .i64 count, .slice p data.length c, .slice q ws.length m] 25)) w1 := by simpa using hb1
    go_wp2
    go_ret
    exact ⟨by rw [HE.out]; rfl, box_below hb1⟩
theorem sector_fails (v : Value) (n : Int) (count : Int) (data : List Nat) (ws : Puts) (w : World) (hd : DiskIn w v count data ws) (er : Int) (he : errS count data ws n = er) :
    Calls Tryz.prog 170 #[v, .int .i64 n] w fun e w' => e = .returned (.int .i64 er) ∧ Below w.heap.size w w' := by
  subst he; exact checkSector_any v n count data ws w hd

/-- A sector answered: in a row of its own. -/
def SecNew (w : World) (base : Nat) (v : Value) (xs : List Nat) : Prop := ∃ g, v = .slice (some ⟨g, 0, none⟩) 128 128 ∧ base ≤ g ∧ w.heap[g]? = some (.cells (Bs xs).toArray 5 (0, 0)) ∧ xs.length = 128 ∧ ∀ c ∈ xs, c < 256

set_option maxHeartbeats 1000000 in
theorem read_err (v : Value) (n : Int) (count : Int) (data : List Nat) (ws : Puts) (w : World) (hd : DiskIn w v count data ws) (er : Int) (hne : er ≠ 0) (he : errS count data ws n = er) :
    Calls Tryz.prog 151 #[v, .int .i64 n] w fun e w' => e = .returned (.tuple #[.slice none 0 0, .int .i64 er]) ∧ Below w.heap.size w w' := by
  obtain ⟨p, c, q, m, rfl, _⟩ := hd.parts
  have HD : Hid _ := hd
  have HE : Hid (errS count data ws n = er) := he
  have hnb : (er != 0) = true := by simpa using hne
  clear hd he hne
  go_enter Tryz.func151, Tryz.ntmps151
  go_wp2_with fail
  refine (sector_fails _ n count data ws _ (HD.out.below (below_alloc w _)) er HE.out).mono ?_
  rintro e w1 ⟨rfl, hb1⟩
  replace hb1 : Below (w.heap.size + 1) (w.alloc (.cells #[.int .i64 count, .slice p data.length c, .slice q ws.length m] 25)) w1 := by simpa using hb1
  go_wp2
  go_ret2
  exact ⟨rfl, box_below hb1⟩
theorem secN_mem {data : List Nat} {n : Nat} (h : ∀ c ∈ data, c < 256) : ∀ c ∈ secN data n, c < 256 := fun c hc => h c (List.mem_of_mem_drop (List.mem_of_mem_take hc))
/-- Where a sector lies among all bytes. -/
theorem bin_sec {w : World} {b o : Nat} {data : List Nat} (h : BIn w (some ⟨b, o, none⟩) data) (n : Nat) : BIn w (some ⟨b, o + n * 128, none⟩) (secN data n) := by
  refine ⟨fun _ => ⟨b, o + n * 128, rfl, fun i hi => ?_⟩, secN_mem h.2⟩
  have := sec_news h n i (.int .u8 ((secN data n).getD i 0 : Nat)) (by simp [Bs, List.getD, List.getElem?_eq_getElem hi])
  rw [add_plain] at this
  exact this

end Go.Proofs.YthifpelappedcaaGreatDoor
