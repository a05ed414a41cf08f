/-
  Roles: what names come to. No program.
-/
import Derived.WalkKit
import Derived.Sort.KeysCollected
import Derived.Maps.Views
namespace Go.Proofs.Ytompcdmjbigigaa

/-- A role. -/
structure Rl where
  name : ByteArray
  holds : List ByteArray
  may : List ByteArray
def nums (s : ByteArray) : List Nat := s.data.toList.map UInt8.toNat
def nmB (c : Nat) : Bool := (decide (97 ≤ c) && decide (c ≤ 122)) || (decide (48 ≤ c) && decide (c ≤ 57)) || decide (c = 45) || decide (c = 95) || decide (c = 46)
def nmOk (s : ByteArray) : Bool := decide (1 ≤ s.size) && decide (s.size ≤ 32) && (nums s).all nmB
def nmL (L : List Rl) : List ByteArray := L.map Rl.name
theorem nums_len (s : ByteArray) : (nums s).length = s.size := by
  unfold nums
  rw [List.length_map, Array.length_toList]; rfl
theorem ba_ext {a b : ByteArray} (h : a.data.toList = b.data.toList) : a = b := by
  obtain ⟨⟨x⟩⟩ := a
  obtain ⟨⟨y⟩⟩ := b
  simp only at h
  rw [h]
instance : DecidableEq ByteArray := fun a b => if h : a.data.toList = b.data.toList then isTrue (ba_ext h) else isFalse fun e => h (by rw [e])
def isIn (l : List ByteArray) (s : ByteArray) : Bool := l.any fun x => decide (x = s)
theorem isIn_iff {l : List ByteArray} {s : ByteArray} : isIn l s = true ↔ s ∈ l := by
  unfold isIn
  rw [List.any_eq_true]
  constructor
  · rintro ⟨x, hx, h⟩
    rw [← of_decide_eq_true h]; exact hx
  · intro h
    exact ⟨s, h, decide_eq_true rfl⟩
theorem isIn_not {l : List ByteArray} {s : ByteArray} : isIn l s = false ↔ s ∉ l := by
  rw [← isIn_iff, Bool.not_eq_true]
def holdsB (ns : List ByteArray) (hs : List ByteArray) : Bool := decide (hs.length ≤ 32) && hs.all (isIn ns)
def mayB (ms : List ByteArray) : Bool := decide (ms.length ≤ 1024) && ms.all nmOk
/-- the names of roles are names, none twice: from some that were seen -/
def nmsB : List ByteArray → List ByteArray → Bool
  | _, [] => true
  | seen, s :: r => nmOk s && !isIn seen s && nmsB (seen ++ [s]) r
def fitB (L : List Rl) : Bool := nmsB [] (nmL L) && L.all fun r => holdsB (nmL L) r.holds && mayB r.may
def chkE (L : List Rl) : Nat := if 32 < L.length then 4 else if fitB L then 0 else 200
theorem chk_cases (L : List Rl) : chkE L = 4 ∨ chkE L = 0 ∨ chkE L = 200 := by
  unfold chkE
  split
  · exact .inl rfl
  · split
    · exact .inr (.inl rfl)
    · exact .inr (.inr rfl)
theorem nmsB_iff : ∀ (l seen : List ByteArray), nmsB seen l = true ↔ (∀ s ∈ l, nmOk s = true) ∧ l.Nodup ∧ ∀ s ∈ l, s ∉ seen
  | [], seen => by simp [nmsB]
  | a :: r, seen => by
    simp only [nmsB, Bool.and_eq_true, nmsB_iff r, Bool.not_eq_true', isIn_not, List.mem_cons, List.nodup_cons, List.mem_append, forall_eq_or_imp, not_or, List.not_mem_nil, or_false]
    constructor
    · rintro ⟨⟨h1, h2⟩, h3, h4, h5⟩
      exact ⟨⟨h1, h3⟩, ⟨fun ha => (h5 a ha).2 rfl, h4⟩, h2, fun s hs => (h5 s hs).1⟩
    · rintro ⟨⟨h1, h2⟩, ⟨h3, h4⟩, h5, h6⟩
      exact ⟨⟨h1, h5⟩, h2, h4, fun s hs => ⟨h6 s hs, fun e => h3 (e ▸ hs)⟩⟩
structure Fit (L : List Rl) : Prop where
  few : L.length ≤ 32
  nms : ∀ r ∈ L, nmOk r.name = true
  nodup : (nmL L).Nodup
  hl : ∀ r ∈ L, r.holds.length ≤ 32
  held : ∀ r ∈ L, ∀ h ∈ r.holds, h ∈ nmL L
  ml : ∀ r ∈ L, r.may.length ≤ 1024
  mays : ∀ r ∈ L, ∀ m ∈ r.may, nmOk m = true
theorem fit_of {L : List Rl} (h : chkE L = 0) : Fit L := by
  unfold chkE at h
  split at h
  · cases h
  rename_i h0
  split at h
  · rename_i h1
    unfold fitB at h1
    rw [Bool.and_eq_true, nmsB_iff, List.all_eq_true] at h1
    obtain ⟨⟨a, b, _⟩, c⟩ := h1
    have d : ∀ r ∈ L, (r.holds.length ≤ 32 ∧ ∀ h ∈ r.holds, h ∈ nmL L) ∧ r.may.length ≤ 1024 ∧ ∀ m ∈ r.may, nmOk m = true := by
      intro r hr
      have := c r hr
      simpa [holdsB, mayB, isIn_iff, List.all_eq_true] using this
    exact ⟨by omega, fun r hr => a _ (List.mem_map_of_mem hr), b, fun r hr => (d r hr).1.1, fun r hr => (d r hr).1.2, fun r hr => (d r hr).2.1, fun r hr => (d r hr).2.2⟩
  · cases h
/-- What names come to. -/
inductive Comes (L : List Rl) (ns : List ByteArray) : ByteArray → Prop where
  | here {a : ByteArray} : a ∈ ns → a ∈ nmL L → Comes L ns a
  | step {r : Rl} {b : ByteArray} : r ∈ L → Comes L ns r.name → b ∈ r.holds → b ∈ nmL L → Comes L ns b
theorem Comes.mem {L : List Rl} {ns : List ByteArray} {a : ByteArray} (h : Comes L ns a) : a ∈ nmL L := by
  cases h with
  | here _ h => exact h
  | step _ _ _ h => exact h
theorem Comes.mono {L : List Rl} {ns ms : List ByteArray} (hs : ∀ a ∈ ns, a ∈ nmL L → Comes L ms a) {a : ByteArray} (h : Comes L ns a) : Comes L ms a := by
  induction h with
  | here h1 h2 => exact hs _ h1 h2
  | step hr _ hb hn ih => exact .step hr ih hb hn
theorem Comes.sub {L : List Rl} {ns : List ByteArray} {S : ByteArray → Prop} (h0 : ∀ a ∈ ns, a ∈ nmL L → S a) (h1 : ∀ r ∈ L, S r.name → ∀ b ∈ r.holds, b ∈ nmL L → S b) {a : ByteArray} (h : Comes L ns a) : S a := by
  induction h with
  | here k1 k2 => exact h0 _ k1 k2
  | step hr _ hb hn ih => exact h1 _ hr ih _ hb hn
/-- one of the roles that come has another one -/
theorem Comes.back {L : List Rl} {ns : List ByteArray} {a : ByteArray} (h : Comes L ns a) : a ∈ ns ∨ ∃ r ∈ L, Comes L ns r.name ∧ a ∈ r.holds := by
  cases h with
  | here h _ => exact .inl h
  | step hr hc hb _ => exact .inr ⟨_, hr, hc, hb⟩
noncomputable def comB (L : List Rl) (ns : List ByteArray) (a : ByteArray) : Bool := @decide (Comes L ns a) (Classical.propDecidable _)
theorem comB_iff {L : List Rl} {ns : List ByteArray} {a : ByteArray} : comB L ns a = true ↔ Comes L ns a := by
  unfold comB; exact @decide_eq_true_iff _ (Classical.propDecidable _)
theorem name_inj {L : List Rl} (h : (nmL L).Nodup) {r s : Rl} (hr : r ∈ L) (hs : s ∈ L) (e : r.name = s.name) : r = s := by
  induction L with
  | nil => cases hr
  | cons a l ih =>
    simp only [nmL, List.map_cons, List.nodup_cons] at h
    rcases List.mem_cons.1 hr with rfl | hr'
    · rcases List.mem_cons.1 hs with rfl | hs'
      · rfl
      · exact h.1 (e ▸ List.mem_map_of_mem (f := Rl.name) hs') |>.elim
    · rcases List.mem_cons.1 hs with rfl | hs'
      · exact h.1 (e ▸ List.mem_map_of_mem (f := Rl.name) hr') |>.elim
      · exact ih h.2 hr' hs'
/-! in the order of their bytes -/
def ltA (a b : ByteArray) : Prop := a.data.toList < b.data.toList
instance (a b : ByteArray) : Decidable (ltA a b) := by unfold ltA; infer_instance
theorem ltA_irrefl (a : ByteArray) : ¬ ltA a a := by unfold ltA; exact List.lt_irrefl _
theorem ltA_trans {a b c : ByteArray} (h : ltA a b) (k : ltA b c) : ltA a c := by unfold ltA at *; exact List.lt_trans h k
theorem ltA_tot (a b : ByteArray) : ltA a b ∨ a = b ∨ ltA b a := by
  unfold ltA
  by_cases h : a.data.toList < b.data.toList
  · exact .inl h
  · have h1 : b.data.toList ≤ a.data.toList := List.not_lt.1 h
    rcases Decidable.em (b.data.toList < a.data.toList) with h2 | h2
    · exact .inr (.inr h2)
    · exact .inr (.inl (ba_ext (List.le_antisymm (List.not_lt.1 h2) h1)))
/-- rising, no two alike -/
def Rise (l : List ByteArray) : Prop := l.Pairwise ltA
theorem rise_same : ∀ {l m : List ByteArray}, Rise l → Rise m → (∀ a, a ∈ l ↔ a ∈ m) → l = m
  | [], [], _, _, _ => rfl
  | [], b :: m, _, _, h => absurd ((h b).2 (by simp)) (by simp)
  | a :: l, [], _, _, h => absurd ((h a).1 (by simp)) (by simp)
  | a :: l, b :: m, h1, h2, h => by
    have p1 := List.pairwise_cons.1 h1
    have p2 := List.pairwise_cons.1 h2
    have e : a = b := by
      rcases List.mem_cons.1 ((h a).1 (by simp)) with h3 | h3
      · exact h3
      rcases List.mem_cons.1 ((h b).2 (by simp)) with h4 | h4
      · exact h4.symm
      exact absurd (ltA_trans (p1.1 _ h4) (p2.1 _ h3)) (ltA_irrefl _)
    subst e
    congr 1
    refine rise_same p1.2 p2.2 fun x => ?_
    constructor
    · intro hx
      rcases List.mem_cons.1 ((h x).1 (List.mem_cons_of_mem _ hx)) with rfl | h3
      · exact absurd (p1.1 _ hx) (ltA_irrefl _)
      · exact h3
    · intro hx
      rcases List.mem_cons.1 ((h x).2 (List.mem_cons_of_mem _ hx)) with rfl | h3
      · exact absurd (p2.1 _ hx) (ltA_irrefl _)
      · exact h3
/-- What names come to, rising. -/
structure IsCl (L : List Rl) (ns out : List ByteArray) : Prop where
  rise : Rise out
  mem : ∀ a, a ∈ out ↔ Comes L ns a
theorem IsCl.one {L : List Rl} {ns o1 o2 : List ByteArray} (h : IsCl L ns o1) (k : IsCl L ns o2) : o1 = o2 :=
  rise_same h.rise k.rise fun a => (h.mem a).trans (k.mem a).symm
theorem rise_nodup {l : List ByteArray} (h : Rise l) : l.Nodup := by
  unfold Rise at h
  exact List.Pairwise.imp (S := fun a b => a ≠ b) (fun hab e => by subst e; exact ltA_irrefl _ hab) h
theorem nodup_len {l m : List ByteArray} (h : l.Nodup) (hs : ∀ a ∈ l, a ∈ m) : l.length ≤ m.length := by
  induction l generalizing m with
  | nil => simp
  | cons a l ih =>
    have hn := List.nodup_cons.1 h
    obtain ⟨s, t, rfl⟩ := List.append_of_mem (hs a (by simp))
    have := ih (m := s ++ t) hn.2 fun x hx => by
      have := hs x (List.mem_cons_of_mem _ hx)
      rcases List.mem_append.1 this with h1 | h1
      · exact List.mem_append_left _ h1
      · rcases List.mem_cons.1 h1 with rfl | h1
        · exact absurd hx hn.1
        · exact List.mem_append_right _ h1
    simp at this ⊢
    omega
/-- What may be done by some names. -/
def Mays (L : List Rl) (ns : List ByteArray) (d : ByteArray) : Prop := ∃ r ∈ L, Comes L ns r.name ∧ d ∈ r.may
/-! the program's worklist -/
structure Wk (L : List Rl) (ns F W : List ByteArray) : Prop where
  nodup : F.Nodup
  sound : ∀ a ∈ F, Comes L ns a
  wait : ∀ a ∈ W, a ∈ nmL L → Comes L ns a
  all : ∀ a ∈ ns, a ∈ nmL L → a ∈ F ∨ a ∈ W
  next : ∀ r ∈ L, r.name ∈ F → ∀ b ∈ r.holds, b ∈ nmL L → b ∈ F ∨ b ∈ W
theorem Wk.start (L : List Rl) (ns : List ByteArray) : Wk L ns [] ns :=
  ⟨List.nodup_nil, fun a h => by simp at h, fun a h1 h2 => .here h1 h2, fun a h _ => .inr h, fun r _ h => by simp at h⟩
theorem Wk.skip {L : List Rl} {ns F W : List ByteArray} {x : ByteArray} (h : Wk L ns F (W ++ [x])) (hx : x ∉ nmL L ∨ x ∈ F) : Wk L ns F W := by
  have key : ∀ b, b ∈ nmL L → b ∈ F ∨ b ∈ W ++ [x] → b ∈ F ∨ b ∈ W := by
    intro b hb h
    rcases h with h | h
    · exact .inl h
    · rcases List.mem_append.1 h with h | h
      · exact .inr h
      · rcases hx with hx | hx
        · exact absurd hb (by rw [List.mem_singleton.1 h]; exact hx)
        · exact .inl (by rw [List.mem_singleton.1 h]; exact hx)
  exact ⟨h.nodup, h.sound, fun a ha => h.wait a (List.mem_append_left _ ha), fun a ha hn => key a hn (h.all a ha hn), fun r hr hf b hb hn => key b hn (h.next r hr hf b hb hn)⟩
theorem Wk.put {L : List Rl} (hf : (nmL L).Nodup) {ns F W : List ByteArray} {r : Rl} (h : Wk L ns F (W ++ [r.name])) (hr : r ∈ L) (hx : r.name ∉ F) {ks : List ByteArray} (hk : ∀ a, a ∈ ks ↔ a ∈ r.holds) :
    Wk L ns (F ++ [r.name]) (W ++ ks) := by
  have hc : Comes L ns r.name := h.wait _ (by simp) (List.mem_map_of_mem hr)
  have key : ∀ b, b ∈ F ∨ b ∈ W ++ [r.name] → b ∈ F ++ [r.name] ∨ b ∈ W ++ ks := by
    intro b h
    simp only [List.mem_append, List.mem_singleton] at h ⊢
    rcases h with h | h | h
    · exact .inl (.inl h)
    · exact .inr (.inl h)
    · exact .inl (.inr h)
  refine ⟨?_, ?_, ?_, fun a ha hn => key a (h.all a ha hn), ?_⟩
  · rw [List.nodup_append]
    exact ⟨h.nodup, by simp, fun a ha b hb e => hx (by rw [← List.mem_singleton.1 hb, ← e]; exact ha)⟩
  · intro a ha
    rcases List.mem_append.1 ha with ha | ha
    · exact h.sound a ha
    · rw [List.mem_singleton.1 ha]; exact hc
  · intro a ha hn
    rcases List.mem_append.1 ha with ha | ha
    · exact h.wait a (List.mem_append_left _ ha) hn
    · exact .step hr hc ((hk a).1 ha) hn
  · intro s hs hsF b hb hn
    rcases List.mem_append.1 hsF with h1 | h1
    · exact key b (h.next s hs h1 b hb hn)
    · have : s = r := name_inj hf hs hr (List.mem_singleton.1 h1)
      subst this
      exact .inr (List.mem_append_right _ ((hk b).2 hb))
theorem Wk.done {L : List Rl} {ns F : List ByteArray} (h : Wk L ns F []) (a : ByteArray) : a ∈ F ↔ Comes L ns a :=
  ⟨h.sound a, fun hc => hc.sub (S := fun a => a ∈ F) (fun a ha hn => (h.all a ha hn).resolve_right (by simp)) (fun r hr hf b hb hn => (h.next r hr hf b hb hn).resolve_right (by simp))⟩
theorem Wk.few {L : List Rl} {ns F W : List ByteArray} (h : Wk L ns F W) : F.length ≤ L.length := by
  have := nodup_len h.nodup fun a ha => (h.sound a ha).mem
  simpa [nmL] using this
theorem Wk.less {L : List Rl} {ns F W : List ByteArray} {x : ByteArray} (h : Wk L ns F W) (hn : x ∈ nmL L) (hx : x ∉ F) : F.length < L.length := by
  have := nodup_len (l := F ++ [x]) (m := nmL L) (by
    rw [List.nodup_append]
    exact ⟨h.nodup, by simp, fun a ha b hb e => hx (by rw [← List.mem_singleton.1 hb, ← e]; exact ha)⟩) (by
    intro a ha
    rcases List.mem_append.1 ha with ha | ha
    · exact (h.sound a ha).mem
    · rw [List.mem_singleton.1 ha]; exact hn)
  simp [nmL] at this
  omega
end Go.Proofs.Ytompcdmjbigigaa
