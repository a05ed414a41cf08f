import Derived.Test.YtcfalgomcdmdhaaDoorJUtf
import Derived.Lib.TrimUEq
namespace Go.Proofs.YtcfalgomcdmdhaaDoor
open Go.RowKit Go.WideShapes
theorem fm_low {c : Nat} {l : List Nat} (h : J.Fm (c :: l)) (hc : c < 128) : J.Fm l := by
  generalize hx : c :: l = x at h
  cases h with
  | nil => cases hx
  | low c' s _ hs => cases hx; exact hs
  | high p s _ hb hne _ =>
    cases p with
    | nil => exact absurd rfl hne
    | cons a p =>
      simp only [List.cons_append, List.cons.injEq] at hx
      have := hb a (by simp)
      omega
theorem fm_char {c : Nat} {l : List Nat} (h : J.Fm (c :: l)) (hc : 128 ≤ c) : ∃ r, J.char (c :: l) = .ok () r ∧ J.Fm r := by
  generalize hx : c :: l = x at h
  cases h with
  | nil => cases hx
  | low c' s h' hs => cases hx; omega
  | high p s hp hb hne hs => exact ⟨s, hp s, hs⟩
theorem valid_fm : ∀ (n : Nat) (l : List UInt8), l.length ≤ n → (Lib.validD l = true ↔ J.Fm (l.map UInt8.toNat))
  | n, [], _ => ⟨fun _ => .nil, fun _ => rfl⟩
  | 0, _ :: _, h => by simp at h
  | n + 1, b :: t, h => by
    simp only [List.length_cons] at h
    by_cases hb : b.toNat < 128
    · rw [Lib.validD_cons b t hb, valid_fm n t (by omega)]
      exact ⟨fun x => .low _ _ hb x, fun x => fm_low x hb⟩
    · have hb' : 128 ≤ b.toNat := by omega
      rw [Lib.validD_step _ (by simp)]
      have hB : ∀ x : UInt8, x.toNat < 256 := fun x => x.toNat_lt
      have D := decode_char (b :: t).length b.toNat ((b :: t).getD 1 0).toNat ((b :: t).getD 2 0).toNat ((b :: t).getD 3 0).toNat (t.map UInt8.toNat) hb' (hB _) (hB _) (hB _) (hB _) (by simp)
        (by cases t <;> simp) (by rcases t with _ | ⟨a, _ | ⟨b, t⟩⟩ <;> simp) (by rcases t with _ | ⟨a, _ | ⟨b, _ | ⟨c, t⟩⟩⟩ <;> simp)
      have hN := Lib.decodeL_N (b :: t)
      rw [show ((b :: t).getD 0 0).toNat = b.toNat from rfl] at hN
      rw [← hN] at D
      have hm : (b :: t).map UInt8.toNat = b.toNat :: t.map UInt8.toNat := rfl
      rw [hm]
      have e := char_is (b.toNat :: t.map UInt8.toNat)
      cases hv : (charN (b.toNat :: t.map UInt8.toNat)).2 with
      | false =>
        rw [hv] at D e
        simp only [Bool.false_eq_true, if_false] at D e
        rw [D]
        simp only [and_self, if_true, Bool.false_eq_true, false_iff]
        intro hf
        obtain ⟨r, hr, _⟩ := fm_char hf hb'
        rw [hr] at e
        cases e
      | true =>
        rw [hv] at D e
        simp only [if_true] at D e
        generalize hk : (charN (b.toNat :: t.map UInt8.toNat)).1 = k at D e
        rw [D.2, if_neg (by omega)]
        rw [valid_fm n _ (by rw [List.length_drop, List.length_cons]; omega), List.map_drop, hm]
        constructor
        · intro hf
          obtain ⟨p, h1, h2, h3, h4⟩ := J.char_ok e
          rw [h1]
          exact .high p _ h2 h3 h4 hf
        · intro hf
          obtain ⟨r, hr, hs⟩ := fm_char hf hb'
          rw [hr] at e
          cases e
          exact hs
def isTx (s : ByteArray) : Bool := decide (s.size ≤ 16384) && Lib.validD s.data.toList
theorem isTx_iff (s : ByteArray) : isTx s = true ↔ s.size ≤ 16384 ∧ J.Fm (numsOf s) := by
  unfold isTx numsOf
  rw [Bool.and_eq_true, decide_eq_true_eq, valid_fm _ _ (Nat.le_refl _)]
def isNm (s : ByteArray) : Bool := decide (s.size ≤ 16384) && match J.number (numsOf s) with
  | .ok (.mk k _ _ _ _ _) r => decide (k = 3) && r.isEmpty
  | _ => false
def HasP (k : Nat) (b : Bool) (n : Int) (t : ByteArray) (nn nv : Nat) : Prop :=
  (k = 0 ∧ b = false ∧ n = 0 ∧ t.size = 0 ∧ nn = 0 ∧ nv = 0) ∨ (k = 1 ∧ n = 0 ∧ t.size = 0 ∧ nn = 0 ∧ nv = 0) ∨ (k = 2 ∧ b = false ∧ t.size = 0 ∧ nn = 0 ∧ nv = 0) ∨
  (k = 3 ∧ isNm t = true ∧ b = false ∧ n = 0 ∧ nn = 0 ∧ nv = 0) ∨ (k = 4 ∧ b = false ∧ n = 0 ∧ nn = 0 ∧ nv = 0) ∨ (k = 5 ∧ b = false ∧ n = 0 ∧ t.size = 0 ∧ nn = 0) ∨
  (k = 6 ∧ nn = nv ∧ b = false ∧ n = 0 ∧ t.size = 0)
instance (k : Nat) (b : Bool) (n : Int) (t : ByteArray) (nn nv : Nat) : Decidable (HasP k b n t nn nv) := by unfold HasP; infer_instance
def nmsE : List ByteArray → List ByteArray → Nat
  | _, [] => 0
  | seen, s :: r => if isTx s = false then 3 else if numsOf s ∈ seen.map numsOf then 8 else nmsE (seen ++ [s]) r
theorem mem_nums {s : ByteArray} {l : List ByteArray} : numsOf s ∈ l.map numsOf ↔ s ∈ l := by
  rw [List.mem_map]
  exact ⟨fun ⟨a, h, e⟩ => numsOf_inj e ▸ h, fun h => ⟨s, h, rfl⟩⟩
theorem nmsE_zero : ∀ (l seen : List ByteArray), nmsE seen l = 0 ↔ (∀ s ∈ l, isTx s = true) ∧ l.Nodup ∧ ∀ s ∈ l, s ∉ seen
  | [], seen => by simp [nmsE]
  | s :: r, seen => by
    simp only [nmsE]
    cases h1 : isTx s with
    | false => simp [h1]
    | true =>
      by_cases h2 : s ∈ seen
      · rw [if_neg (by simp), if_pos (mem_nums.2 h2)]
        simp [h2]
      · have ih := nmsE_zero r (seen ++ [s])
        rw [if_neg (by simp), if_neg (fun h => h2 (mem_nums.1 h)), ih]
        simp only [List.mem_cons, List.nodup_cons, List.mem_append, List.not_mem_nil, or_false]
        constructor
        · rintro ⟨a, b, c⟩
          refine ⟨fun x hx => ?_, ⟨fun h => (c s h) (.inr rfl), b⟩, fun x hx => ?_⟩
          · rcases hx with rfl | hx
            · exact h1
            · exact a x hx
          · rcases hx with rfl | hx
            · exact h2
            · exact fun h => c x hx (.inl h)
        · rintro ⟨a, ⟨b1, b2⟩, c⟩
          refine ⟨fun x hx => a x (.inr hx), b2, fun x hx h => ?_⟩
          rcases h with h | rfl
          · exact c x (.inr hx) h
          · exact b1 hx
def aloneB (k : Nat) (b : Bool) (n : Int) (t : ByteArray) (ns : List ByteArray) (nv : Nat) (d : Nat) : Nat :=
  if ¬ HasP k b n t ns.length nv then 8 else if k = 4 ∧ isTx t = false then 3 else if (k = 5 ∨ k = 6) ∧ 32 < d then 161 else if 1024 < nv then 4 else nmsE [] ns
mutual
def chkB : JB → Nat → Nat
  | .mk k b n t ns vs, d => if aloneB k b n t ns vs.length d = 0 then chksB vs (d + 1) else aloneB k b n t ns vs.length d
def chksB : List JB → Nat → Nat
  | [], _ => 0
  | v :: vs, d => if chkB v d = 0 then chksB vs d else chkB v d
end
end Go.Proofs.YtcfalgomcdmdhaaDoor
