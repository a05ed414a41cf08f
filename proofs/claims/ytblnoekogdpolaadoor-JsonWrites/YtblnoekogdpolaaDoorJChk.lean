import Derived.Test.YtblnoekogdpolaaDoorJUtf
import Derived.Lib.TrimUEq
namespace Go.Proofs.YtblnoekogdpolaaDoor
open Go.RowKit Go.WideShapes
theorem fm_low {c : Nat} {l : List Nat} (h : J.Fm (c :: l)) (hc : c < 128) : J.Fm l := by
  generalize hx : c :: l = x at h
  cases h with
  | nil => cases hx
  | low c' s _ hs => cases hx; exact hs
  | high p s _ hb hne _ =>
    cases p with
    | nil => exact absurd rfl hne
    | cons a p =>
      simp only [List.cons_append, List.cons.injEq] at hx
      have := hb a (by simp)
      omega
theorem fm_char {c : Nat} {l : List Nat} (h : J.Fm (c :: l)) (hc : 128 ≤ c) : ∃ r, J.char (c :: l) = .ok () r ∧ J.Fm r := by
  generalize hx : c :: l = x at h
  cases h with
  | nil => cases hx
  | low c' s h' hs => cases hx; omega
  | high p s hp hb hne hs => exact ⟨s, hp s, hs⟩
theorem valid_fm : ∀ (n : Nat) (l : List UInt8), l.length ≤ n → (Lib.validD l = true ↔ J.Fm (l.map UInt8.toNat))
  | n, [], _ => ⟨fun _ => .nil, fun _ => rfl⟩
  | 0, _ :: _, h => by simp at h
  | n + 1, b :: t, h => by
    simp only [List.length_cons] at h
    by_cases hb : b.toNat < 128
    · rw [Lib.validD_cons b t hb, valid_fm n t (by omega)]
      exact ⟨fun x => .low _ _ hb x, fun x => fm_low x hb⟩
    · have hb' : 128 ≤ b.toNat := by omega
      rw [Lib.validD_step _ (by simp)]
      have hB : ∀ x : UInt8, x.toNat < 256 := fun x => x.toNat_lt
      have D := decode_char (b :: t).length b.toNat ((b :: t).getD 1 0).toNat ((b :: t).getD 2 0).toNat ((b :: t).getD 3 0).toNat (t.map UInt8.toNat) hb' (hB _) (hB _) (hB _) (hB _) (by simp)
        (by cases t <;> simp) (by rcases t with _ | ⟨a, _ | ⟨b, t⟩⟩ <;> simp) (by rcases t with _ | ⟨a, _ | ⟨b, _ | ⟨c, t⟩⟩⟩ <;> simp)
      have hN := Lib.decodeL_N (b :: t)
      rw [show ((b :: t).getD 0 0).toNat = b.toNat from rfl] at hN
      rw [← hN] at D
      have hm : (b :: t).map UInt8.toNat = b.toNat :: t.map UInt8.toNat := rfl
      rw [hm]
      have e := char_is (b.toNat :: t.map UInt8.toNat)
      cases hv : (charN (b.toNat :: t.map UInt8.toNat)).2 with
      | false =>
        rw [hv] at D e
        simp only [Bool.false_eq_true, if_false] at D e
        rw [D]
        simp only [and_self, if_true, Bool.false_eq_true, false_iff]
        intro hf
        obtain ⟨r, hr, _⟩ := fm_char hf hb'
        rw [hr] at e
        cases e
      | true =>
        rw [hv] at D e
        simp only [if_true] at D e
        generalize hk : (charN (b.toNat :: t.map UInt8.toNat)).1 = k at D e
        rw [D.2, if_neg (by omega)]
        rw [valid_fm n _ (by rw [List.length_drop, List.length_cons]; omega), List.map_drop, hm]
        constructor
        · intro hf
          obtain ⟨p, h1, h2, h3, h4⟩ := J.char_ok e
          rw [h1]
          exact .high p _ h2 h3 h4 hf
        · intro hf
          obtain ⟨r, hr, hs⟩ := fm_char hf hb'
          rw [hr] at e
          cases e
          exact hs
def isTx (s : ByteArray) : Bool := decide (s.size ≤ 16384) && Lib.validD s.data.toList
theorem isTx_iff (s : ByteArray) : isTx s = true ↔ s.size ≤ 16384 ∧ J.Fm (numsOf s) := by
  unfold isTx numsOf
  rw [Bool.and_eq_true, decide_eq_true_eq, valid_fm _ _ (Nat.le_refl _)]
def isNm (s : ByteArray) : Bool := decide (s.size ≤ 16384) && match J.number (numsOf s) with
  | .ok (.mk k _ _ _ _ _) r => decide (k = 3) && r.isEmpty
  | _ => false
theorem number_three {l : List Nat} {v : J.JV} {k : Nat} {b : Bool} {n : Int} {t : List Nat} {ns : List (List Nat)} {vs : List J.JV} (h : J.number l = .ok v []) (hv : v = .mk k b n t ns vs) (hk : k = 3) : v = .mk 3 false 0 l [] [] := by
  unfold J.number at h
  obtain ⟨p, m, h1, h2⟩ := J.then_ok h
  obtain ⟨h3, rfl⟩ := J.pure_ok h2
  obtain ⟨h4, h5⟩ := J.seen_ok J.Good.numB h1
  rw [List.append_nil] at h5
  rw [← h5] at h3
  unfold J.numV at h3
  split at h3
  · rw [← h3] at hv
    simp only [J.JV.mk.injEq] at hv
    omega
  · exact h3.symm
theorem isNm_iff (s : ByteArray) : isNm s = true ↔ s.size ≤ 16384 ∧ J.number (numsOf s) = .ok (.mk 3 false 0 (numsOf s) [] []) [] := by
  unfold isNm
  rw [Bool.and_eq_true, decide_eq_true_eq]
  refine and_congr_right fun _ => ?_
  constructor
  · intro h
    split at h
    · rename_i k b n t ns vs r hr
      simp only [Bool.and_eq_true, decide_eq_true_eq, List.isEmpty_iff] at h
      obtain ⟨hk, rfl⟩ := h
      have := number_three hr rfl hk
      rw [hr, this]
    · cases h
  · intro h
    rw [h]
    rfl
def HasP (k : Nat) (b : Bool) (n : Int) (t : ByteArray) (nn nv : Nat) : Prop :=
  (k = 0 ∧ b = false ∧ n = 0 ∧ t.size = 0 ∧ nn = 0 ∧ nv = 0) ∨ (k = 1 ∧ n = 0 ∧ t.size = 0 ∧ nn = 0 ∧ nv = 0) ∨ (k = 2 ∧ b = false ∧ t.size = 0 ∧ nn = 0 ∧ nv = 0) ∨
  (k = 3 ∧ isNm t = true ∧ b = false ∧ n = 0 ∧ nn = 0 ∧ nv = 0) ∨ (k = 4 ∧ b = false ∧ n = 0 ∧ nn = 0 ∧ nv = 0) ∨ (k = 5 ∧ b = false ∧ n = 0 ∧ t.size = 0 ∧ nn = 0) ∨
  (k = 6 ∧ nn = nv ∧ b = false ∧ n = 0 ∧ t.size = 0)
instance (k : Nat) (b : Bool) (n : Int) (t : ByteArray) (nn nv : Nat) : Decidable (HasP k b n t nn nv) := by unfold HasP; infer_instance
def nmsE : List ByteArray → List ByteArray → Nat
  | _, [] => 0
  | seen, s :: r => if isTx s = false then 3 else if numsOf s ∈ seen.map numsOf then 8 else nmsE (seen ++ [s]) r
theorem mem_nums {s : ByteArray} {l : List ByteArray} : numsOf s ∈ l.map numsOf ↔ s ∈ l := by
  rw [List.mem_map]
  exact ⟨fun ⟨a, h, e⟩ => numsOf_inj e ▸ h, fun h => ⟨s, h, rfl⟩⟩
theorem nmsE_zero : ∀ (l seen : List ByteArray), nmsE seen l = 0 ↔ (∀ s ∈ l, isTx s = true) ∧ l.Nodup ∧ ∀ s ∈ l, s ∉ seen
  | [], seen => by simp [nmsE]
  | s :: r, seen => by
    simp only [nmsE]
    cases h1 : isTx s with
    | false => simp [h1]
    | true =>
      by_cases h2 : s ∈ seen
      · rw [if_neg (by simp), if_pos (mem_nums.2 h2)]
        simp [h2]
      · have ih := nmsE_zero r (seen ++ [s])
        rw [if_neg (by simp), if_neg (fun h => h2 (mem_nums.1 h)), ih]
        simp only [List.mem_cons, List.nodup_cons, List.mem_append, List.not_mem_nil, or_false]
        constructor
        · rintro ⟨a, b, c⟩
          refine ⟨fun x hx => ?_, ⟨fun h => (c s h) (.inr rfl), b⟩, fun x hx => ?_⟩
          · rcases hx with rfl | hx
            · exact h1
            · exact a x hx
          · rcases hx with rfl | hx
            · exact h2
            · exact fun h => c x hx (.inl h)
        · rintro ⟨a, ⟨b1, b2⟩, c⟩
          refine ⟨fun x hx => a x (.inr hx), b2, fun x hx h => ?_⟩
          rcases h with h | rfl
          · exact c x (.inr hx) h
          · exact b1 hx
def aloneB (k : Nat) (b : Bool) (n : Int) (t : ByteArray) (ns : List ByteArray) (nv : Nat) (d : Nat) : Nat :=
  if ¬ HasP k b n t ns.length nv then 8 else if k = 4 ∧ isTx t = false then 3 else if (k = 5 ∨ k = 6) ∧ 32 < d then 161 else if 1024 < nv then 4 else nmsE [] ns
mutual
def chkB : JB → Nat → Nat
  | .mk k b n t ns vs, d => if aloneB k b n t ns vs.length d = 0 then chksB vs (d + 1) else aloneB k b n t ns vs.length d
def chksB : List JB → Nat → Nat
  | [], _ => 0
  | v :: vs, d => if chkB v d = 0 then chksB vs d else chkB v d
end
inductive Rngs (N : Nat) : JB → Prop where
  | mk (k : Nat) (b : Bool) (n : Int) (t : ByteArray) (ns : List ByteArray) (vs : List JB) (hn : J.Rng n) (ht : t.size ≤ N) (hs : ∀ s ∈ ns, s.size ≤ N) (hv : ∀ v ∈ vs, Rngs N v) : Rngs N (.mk k b n t ns vs)
inductive RngI : JB → Prop where
  | mk (k : Nat) (b : Bool) (n : Int) (t : ByteArray) (ns : List ByteArray) (vs : List JB) (hn : J.Rng n) (hv : ∀ v ∈ vs, RngI v) : RngI (.mk k b n t ns vs)
theorem jin_rng {w : World} {Z : Nat → Prop} {A : Array Value} {v : JB} (h : JIn w Z A v) : RngI v := by
  induction h with
  | mk k b n t ns vs nq iq nc ic F hk hn hnc hic hnm him hnq hiq hN hI hR ih =>
    refine .mk k b n t ns vs hn fun v hv => ?_
    obtain ⟨i, hi⟩ := List.mem_iff_getElem?.1 hv
    exact ih i v hi
theorem nums_zero {t : ByteArray} (h : t.size = 0) : numsOf t = [] := List.eq_nil_of_length_eq_zero (by rw [numsOf_len, h])
theorem zero_nums {t : ByteArray} (h : numsOf t = []) : t.size = 0 := by rw [← numsOf_len, h]; rfl
theorem nodup_nums {l : List ByteArray} : (l.map numsOf).Nodup ↔ l.Nodup := by
  induction l with
  | nil => simp
  | cons a l ih =>
    simp only [List.map_cons, List.nodup_cons, ih, List.mem_map, not_exists, not_and]
    exact and_congr_left fun _ => ⟨fun h hm => h a hm rfl, fun h x hx e => h (numsOf_inj e ▸ hx)⟩
theorem toJs_nil {vs : List JB} : toJs vs = [] ↔ vs = [] := by cases vs <;> simp [toJs]
mutual
theorem chk_wf : ∀ (v : JB) (d : Nat), 1 ≤ d → d ≤ 33 → RngI v → chkB v d = 0 → J.Wf v.toJ (33 - d)
  | .mk k b n t ns vs, d, h1, h2, hr, h => by
    cases hr with
    | mk _ _ _ _ _ _ hn hv =>
      simp only [chkB] at h
      split at h
      · rename_i ha
        have L := chks_wf vs (d + 1) (by omega)
        simp only [JB.toJ, J.Wf]
        unfold aloneB at ha
        split at ha
        · cases ha
        rename_i hp
        have hp := Classical.not_not.1 hp
        split at ha
        · cases ha
        rename_i h4
        split at ha
        · cases ha
        rename_i hd
        split at ha
        · cases ha
        rename_i hm
        have hN := (nmsE_zero ns []).1 ha
        have nz : ns.length = 0 → ns.map numsOf = [] := fun e => by rw [List.eq_nil_of_length_eq_zero e]; rfl
        have vz : vs.length = 0 → toJs vs = [] := fun e => by rw [List.eq_nil_of_length_eq_zero e]; rfl
        rcases hp with ⟨rfl, rfl, rfl, a4, a5, a6⟩ | ⟨rfl, rfl, a4, a5, a6⟩ | ⟨rfl, rfl, a4, a5, a6⟩ | ⟨rfl, a1, rfl, rfl, a5, a6⟩ | ⟨rfl, rfl, rfl, a5, a6⟩ | ⟨rfl, rfl, rfl, a4, a5⟩ | ⟨rfl, a5, rfl, rfl, a4⟩
        · exact .inl ⟨rfl, rfl, rfl, nums_zero a4, nz a5, vz a6⟩
        · exact .inr (.inl ⟨rfl, rfl, nums_zero a4, nz a5, vz a6⟩)
        · exact .inr (.inr (.inl ⟨rfl, rfl, hn, nums_zero a4, nz a5, vz a6⟩))
        · exact .inr (.inr (.inr (.inl ⟨rfl, rfl, rfl, ((isNm_iff t).1 a1).2, nz a5, vz a6⟩)))
        · have : isTx t = true := by cases hx : isTx t with
            | true => rfl
            | false => exact absurd ⟨rfl, hx⟩ h4
          exact .inr (.inr (.inr (.inr (.inl ⟨rfl, rfl, rfl, ((isTx_iff t).1 this).2, nz a5, vz a6⟩))))
        · have hd' : d ≤ 32 := by omega
          refine .inr (.inr (.inr (.inr (.inr (.inl ⟨rfl, rfl, rfl, nums_zero a4, nz a5, by omega, by rw [toJs_len]; omega, ?_⟩)))))
          rw [show 33 - d - 1 = 33 - (d + 1) by omega]
          exact L (by omega) hv h
        · have hd' : d ≤ 32 := by omega
          refine .inr (.inr (.inr (.inr (.inr (.inr ⟨rfl, rfl, rfl, nums_zero a4, by rw [List.length_map, toJs_len, a5], nodup_nums.2 hN.2.1, ?_, by omega, by rw [toJs_len]; omega, ?_⟩)))))
          · intro s hs
            obtain ⟨x, hx, rfl⟩ := List.mem_map.1 hs
            exact ((isTx_iff x).1 (hN.1 x hx)).2
          · rw [show 33 - d - 1 = 33 - (d + 1) by omega]
            exact L (by omega) hv h
      · rename_i ha
        exact absurd h ha
theorem chks_wf : ∀ (vs : List JB) (d : Nat), 1 ≤ d → d ≤ 33 → (∀ v ∈ vs, RngI v) → chksB vs d = 0 → J.WfL (toJs vs) (33 - d)
  | [], _, _, _, _, _ => trivial
  | v :: vs, d, h1, h2, hr, h => by
    simp only [chksB] at h
    split at h
    · rename_i ha
      exact ⟨chk_wf v d h1 h2 (hr v (by simp)) ha, chks_wf vs d h1 h2 (fun x hx => hr x (by simp [hx])) h⟩
    · rename_i ha
      exact absurd h ha
end
theorem size_nil {t : ByteArray} (h : numsOf t = []) : t.size = 0 := zero_nums h
mutual
theorem wf_chk : ∀ (v : JB) (d : Nat), 1 ≤ d → d ≤ 33 → Rngs 16384 v → J.Wf v.toJ (33 - d) → chkB v d = 0
  | .mk k b n t ns vs, d, h1, h2, hr, h => by
    cases hr with
    | mk _ _ _ _ _ _ hn ht hs hv =>
      have L := wfs_chk vs (d + 1) (by omega)
      simp only [JB.toJ, J.Wf] at h
      have nz : ns.map numsOf = [] → ns = [] := fun e => List.map_eq_nil_iff.1 e
      have key : aloneB k b n t ns vs.length d = 0 ∧ ((k = 5 ∨ k = 6) ∨ vs = []) ∧ ((k = 5 ∨ k = 6) → d ≤ 32 ∧ J.WfL (toJs vs) (33 - (d + 1))) := by
        rcases h with ⟨rfl, rfl, rfl, a4, a5, a6⟩ | ⟨rfl, rfl, a4, a5, a6⟩ | ⟨rfl, rfl, _, a4, a5, a6⟩ | ⟨rfl, rfl, rfl, a1, a5, a6⟩ | ⟨rfl, rfl, rfl, a1, a5, a6⟩ | ⟨rfl, rfl, rfl, a4, a5, a6, a7, a8⟩ | ⟨rfl, rfl, rfl, a4, a5, a1, a2, a6, a7, a8⟩
        · have := nz a5; have := toJs_nil.1 a6; subst_vars
          refine ⟨?_, .inr rfl, by omega⟩
          have : HasP 0 false 0 t 0 0 := .inl ⟨rfl, rfl, rfl, zero_nums a4, rfl, rfl⟩
          simp [aloneB, this, nmsE]
        · have := nz a5; have := toJs_nil.1 a6; subst_vars
          refine ⟨?_, .inr rfl, by omega⟩
          have : HasP 1 b 0 t 0 0 := .inr (.inl ⟨rfl, rfl, zero_nums a4, rfl, rfl⟩)
          simp [aloneB, this, nmsE]
        · have := nz a5; have := toJs_nil.1 a6; subst_vars
          refine ⟨?_, .inr rfl, by omega⟩
          have : HasP 2 false n t 0 0 := .inr (.inr (.inl ⟨rfl, rfl, zero_nums a4, rfl, rfl⟩))
          simp [aloneB, this, nmsE]
        · have := nz a5; have := toJs_nil.1 a6; subst_vars
          refine ⟨?_, .inr rfl, by omega⟩
          have : HasP 3 false 0 t 0 0 := .inr (.inr (.inr (.inl ⟨rfl, (isNm_iff t).2 ⟨ht, a1⟩, rfl, rfl, rfl, rfl⟩)))
          simp [aloneB, this, nmsE]
        · have := nz a5; have := toJs_nil.1 a6; subst_vars
          refine ⟨?_, .inr rfl, by omega⟩
          have : HasP 4 false 0 t 0 0 := .inr (.inr (.inr (.inr (.inl ⟨rfl, rfl, rfl, rfl, rfl⟩))))
          simp [aloneB, this, nmsE, (isTx_iff t).2 ⟨ht, a1⟩]
        · have := nz a5; subst_vars
          rw [toJs_len] at a7
          refine ⟨?_, .inl (.inl rfl), fun _ => ⟨by omega, by rw [show 33 - (d + 1) = 33 - d - 1 by omega]; exact a8⟩⟩
          have : HasP 5 false 0 t 0 vs.length := .inr (.inr (.inr (.inr (.inr (.inl ⟨rfl, rfl, rfl, zero_nums a4, rfl⟩)))))
          have hd : ¬ 32 < d := by omega
          have hm : ¬ 1024 < vs.length := by omega
          simp [aloneB, this, nmsE, hd, hm]
        · rw [toJs_len] at a7
          rw [List.length_map, toJs_len] at a5
          refine ⟨?_, .inl (.inr rfl), fun _ => ⟨by omega, by rw [show 33 - (d + 1) = 33 - d - 1 by omega]; exact a8⟩⟩
          have : HasP 6 false 0 t ns.length vs.length := .inr (.inr (.inr (.inr (.inr (.inr ⟨rfl, a5, rfl, rfl, zero_nums a4⟩)))))
          have hd : ¬ 32 < d := by omega
          have hm : ¬ 1024 < vs.length := by omega
          have hN : nmsE [] ns = 0 := (nmsE_zero ns []).2 ⟨fun s hs' => (isTx_iff s).2 ⟨hs s hs', a2 _ (List.mem_map_of_mem hs')⟩, nodup_nums.1 a1, by simp⟩
          simp [aloneB, this, hd, hm, hN]
      simp only [chkB]
      rw [if_pos key.1]
      rcases key.2.1 with hk | rfl
      · obtain ⟨h3, h4⟩ := key.2.2 hk
        exact L (by omega) hv h4
      · rfl
theorem wfs_chk : ∀ (vs : List JB) (d : Nat), 1 ≤ d → d ≤ 33 → (∀ v ∈ vs, Rngs 16384 v) → J.WfL (toJs vs) (33 - d) → chksB vs d = 0
  | [], _, _, _, _, _ => rfl
  | v :: vs, d, h1, h2, hr, h => by
    simp only [chksB]
    rw [if_pos (wf_chk v d h1 h2 (hr v (by simp)) h.1)]
    exact wfs_chk vs d h1 h2 (fun x hx => hr x (by simp [hx])) h.2
end
mutual
theorem wf_long : ∀ (v : JB) (d N : Nat), RngI v → J.Wf v.toJ d → (J.written v.toJ).length ≤ N → Rngs N v
  | .mk k b n t ns vs, d, N, hr, h, hl => by
    cases hr with
    | mk _ _ _ _ _ _ hn hv =>
      have nz : ns.map numsOf = [] → ns = [] := fun e => List.map_eq_nil_iff.1 e
      have L := wfs_long vs (d - 1) N
      simp only [JB.toJ, J.Wf] at h
      simp only [JB.toJ, J.written] at hl
      rcases h with ⟨rfl, rfl, rfl, a4, a5, a6⟩ | ⟨rfl, rfl, a4, a5, a6⟩ | ⟨rfl, rfl, _, a4, a5, a6⟩ | ⟨rfl, rfl, rfl, a1, a5, a6⟩ | ⟨rfl, rfl, rfl, a1, a5, a6⟩ | ⟨rfl, rfl, rfl, a4, a5, a6, a7, a8⟩ | ⟨rfl, rfl, rfl, a4, a5, a1, a2, a6, a7, a8⟩
      · have := nz a5; have := toJs_nil.1 a6; have := zero_nums a4; subst_vars
        exact .mk _ _ _ _ _ _ hn (by omega) (by simp) (by simp)
      · have := nz a5; have := toJs_nil.1 a6; have := zero_nums a4; subst_vars
        exact .mk _ _ _ _ _ _ hn (by omega) (by simp) (by simp)
      · have := nz a5; have := toJs_nil.1 a6; have := zero_nums a4; subst_vars
        exact .mk _ _ _ _ _ _ hn (by omega) (by simp) (by simp)
      · have := nz a5; have := toJs_nil.1 a6; subst_vars
        simp at hl
        exact .mk _ _ _ _ _ _ hn (by rw [numsOf_len] at hl; exact hl) (by simp) (by simp)
      · have := nz a5; have := toJs_nil.1 a6; subst_vars
        simp at hl
        have := J.quoted_long (numsOf t)
        rw [numsOf_len] at this
        exact .mk _ _ _ _ _ _ hn (by omega) (by simp) (by simp)
      · have := nz a5; have := zero_nums a4; subst_vars
        simp only [List.map_nil, show ¬ (5 = 0) by decide, show ¬ (5 = 1) by decide, show ¬ (5 = 2) by decide, show ¬ (5 = 3) by decide, show ¬ (5 = 4) by decide, show ¬ (5 = 6) by decide, if_false, List.length_cons, List.length_append, List.length_nil] at hl
        have h9 : (J.itemsT false (List.map numsOf []) (toJs vs)).length ≤ N := by simp only [List.map_nil]; omega
        exact .mk _ _ _ _ _ _ hn (by omega) (by simp) (L false [] hv a8 (by simp) h9).1
      · have := zero_nums a4
        simp only [show ¬ (6 = 0) by decide, show ¬ (6 = 1) by decide, show ¬ (6 = 2) by decide, show ¬ (6 = 3) by decide, show ¬ (6 = 4) by decide, if_false, if_true, List.length_cons, List.length_append, List.length_nil] at hl
        have K := L true ns hv a8 (by intro _; rw [List.length_map, toJs_len] at a5; exact a5) (by omega)
        exact .mk _ _ _ _ _ _ hn (by omega) (K.2 rfl) K.1
theorem wfs_long : ∀ (vs : List JB) (d N : Nat) (obj : Bool) (ns : List ByteArray), (∀ v ∈ vs, RngI v) → J.WfL (toJs vs) d → (obj = true → ns.length = vs.length) → (J.itemsT obj (ns.map numsOf) (toJs vs)).length ≤ N →
    (∀ v ∈ vs, Rngs N v) ∧ (obj = true → ∀ s ∈ ns, s.size ≤ N)
  | [], d, N, obj, ns, _, _, hn, _ => ⟨by simp, fun ho => by
      have h0 : ns = [] := List.eq_nil_of_length_eq_zero (by simpa using hn ho)
      subst h0; simp⟩
  | v :: vs, d, N, obj, ns, hr, h, hn, hl => by
    simp only [toJs, J.itemsT, List.length_append] at hl
    have h1 := wf_long v d N (hr v (by simp)) h.1 (by omega)
    have e : (J.itemsT obj (ns.map numsOf).tail (toJs vs)).length ≤ N := by
      cases vs with
      | nil => simp [toJs, J.itemsT]
      | cons x vs => simp only [toJs, List.isEmpty_cons, Bool.false_eq_true, if_false, List.length_cons] at hl ⊢; omega
    rw [← List.map_tail] at e
    have K := wfs_long vs d N obj ns.tail (fun x hx => hr x (by simp [hx])) h.2 (fun ho => by have := hn ho; simp at this ⊢; omega) e
    refine ⟨fun x hx => ?_, fun ho s hs => ?_⟩
    · rcases List.mem_cons.1 hx with rfl | hx
      · exact h1
      · exact K.1 x hx
    · cases ns with
      | nil => cases hs
      | cons a ns =>
        rcases List.mem_cons.1 hs with rfl | hs
        · subst ho
          simp only [if_true, List.map_cons, List.headD_cons, List.length_append] at hl
          have := J.quoted_long (numsOf s)
          rw [numsOf_len] at this
          omega
        · exact K.2 ho s hs
end
end Go.Proofs.YtblnoekogdpolaaDoor
