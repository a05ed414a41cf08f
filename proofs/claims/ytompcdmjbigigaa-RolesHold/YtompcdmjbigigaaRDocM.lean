/-
  The document's roles: places, checks, passes. No program.
-/
import Derived.Test.YtompcdmjbigigaaRMath
namespace Go.Proofs.Ytompcdmjbigigaa

def zR : Rl := ⟨ByteArray.empty, [], []⟩
def nmA (L : List Rl) (i : Nat) : ByteArray := (L.getD i zR).name
theorem nmA_mem {L : List Rl} {i : Nat} (h : i < L.length) : nmA L i ∈ nmL L := by
  unfold nmA nmL
  rw [List.getD_eq_getElem?_getD, List.getElem?_eq_getElem h]
  exact List.mem_map_of_mem (List.getElem_mem h)
theorem nmA_of {L : List Rl} {s : ByteArray} (h : s ∈ nmL L) : ∃ i, i < L.length ∧ nmA L i = s := by
  unfold nmL at h
  obtain ⟨r, hr, rfl⟩ := List.mem_map.1 h
  obtain ⟨i, hi, rfl⟩ := List.getElem_of_mem hr
  exact ⟨i, hi, by unfold nmA; rw [List.getD_eq_getElem?_getD, List.getElem?_eq_getElem hi]; rfl⟩
theorem rl_mem {L : List Rl} {i : Nat} (h : i < L.length) : L.getD i zR ∈ L := by
  rw [List.getD_eq_getElem?_getD, List.getElem?_eq_getElem h]
  exact List.getElem_mem h
theorem rl_of {L : List Rl} {r : Rl} (h : r ∈ L) : ∃ i, i < L.length ∧ L.getD i zR = r := by
  obtain ⟨i, hi, rfl⟩ := List.getElem_of_mem h
  exact ⟨i, hi, by rw [List.getD_eq_getElem?_getD, List.getElem?_eq_getElem hi]; rfl⟩
theorem nmA_get {L : List Rl} {i : Nat} (h : i < L.length) : nmA L i = (nmL L)[i]'(by simpa [nmL] using h) := by
  unfold nmA
  rw [List.getD_eq_getElem?_getD, List.getElem?_eq_getElem h]
  simp [nmL]
theorem nm_one {L : List Rl} (h : (nmL L).Nodup) {i j : Nat} (hi : i < L.length) (hj : j < L.length) (e : nmA L i = nmA L j) : i = j := by
  rw [nmA_get hi, nmA_get hj] at e
  have hi' : i < (nmL L).length := by simpa [nmL] using hi
  have hj' : j < (nmL L).length := by simpa [nmL] using hj
  rcases Nat.lt_trichotomy i j with h1 | h1 | h1
  · exact absurd e (List.pairwise_iff_getElem.1 h i j hi' hj' h1)
  · exact h1
  · exact absurd e.symm (List.pairwise_iff_getElem.1 h j i hj' hi' h1)
/-- A role's number. -/
inductive PlP (L : List Rl) (s : ByteArray) : Int → Prop where
  | no : s ∉ nmL L → PlP L s (-1)
  | at (i : Nat) : i < L.length → nmA L i = s → (∀ j, j < i → nmA L j ≠ s) → PlP L s i
theorem PlP.one {L : List Rl} {s : ByteArray} {a b : Int} (h : PlP L s a) (k : PlP L s b) : a = b := by
  cases h with
  | no h =>
    cases k with
    | no _ => rfl
    | «at» i hi e _ => exact absurd (e ▸ nmA_mem hi) h
  | «at» i hi e hm =>
    cases k with
    | no h => exact absurd (e ▸ nmA_mem hi) h
    | «at» j hj f hn =>
      have h1 : ¬ j < i := fun c => hm j c f
      have h2 : ¬ i < j := fun c => hn i c e
      omega
/-- What Check asks of each. -/
structure RowOk (L : List Rl) (i : Nat) : Prop where
  nm : nmOk (nmA L i) = true
  first : ∀ j, j < i → nmA L j ≠ nmA L i
  hl : (L.getD i zR).holds.length ≤ 32
  ml : (L.getD i zR).may.length ≤ 1024
  held : ∀ h ∈ (L.getD i zR).holds, h ∈ nmL L
  mays : ∀ m ∈ (L.getD i zR).may, nmOk m = true
theorem fitB_rows (L : List Rl) : fitB L = true ↔ ∀ i, i < L.length → RowOk L i := by
  unfold fitB
  rw [Bool.and_eq_true, nmsB_iff, List.all_eq_true]
  constructor
  · rintro ⟨⟨a, b, _⟩, c⟩ i hi
    have d := c _ (rl_mem hi)
    simp only [holdsB, mayB, Bool.and_eq_true, decide_eq_true_eq, List.all_eq_true, isIn_iff] at d
    refine ⟨a _ (nmA_mem hi), fun j hj e => ?_, d.1.1, d.2.1, d.1.2, d.2.2⟩
    have := nm_one b (Nat.lt_trans hj hi) hi e
    omega
  · intro h
    refine ⟨⟨fun s hs => ?_, ?_, fun _ _ => by simp⟩, fun r hr => ?_⟩
    · obtain ⟨i, hi, rfl⟩ := nmA_of hs
      exact (h i hi).nm
    · rw [List.Nodup, List.pairwise_iff_getElem]
      intro i j hi hj hij e
      have hi' : i < L.length := by simpa [nmL] using hi
      have hj' : j < L.length := by simpa [nmL] using hj
      refine (h j hj').first i hij ?_
      unfold nmA
      rw [List.getD_eq_getElem?_getD, List.getElem?_eq_getElem hi', List.getD_eq_getElem?_getD, List.getElem?_eq_getElem hj']
      simpa [nmL] using e
    · obtain ⟨i, hi, rfl⟩ := rl_of hr
      have k := h i hi
      simp only [holdsB, mayB, Bool.and_eq_true, decide_eq_true_eq, List.all_eq_true, isIn_iff]
      exact ⟨⟨k.hl, k.held⟩, k.ml, k.mays⟩
theorem chk_many {L : List Rl} (h : 32 < L.length) : chkE L = 4 := by unfold chkE; rw [if_pos h]
theorem chk_role {L : List Rl} (h : ¬ 32 < L.length) {i : Nat} (hi : i < L.length) (hn : ¬ RowOk L i) : chkE L = 200 := by
  unfold chkE
  rw [if_neg h, if_neg fun h => hn ((fitB_rows L).1 h i hi)]
theorem chk_ok {L : List Rl} (h : ¬ 32 < L.length) (hn : ∀ i, i < L.length → RowOk L i) : chkE L = 0 := by
  unfold chkE
  rw [if_neg h, if_pos ((fitB_rows L).2 hn)]
/-! marks -/
def mkd (M : List Bool) (i : Nat) : Bool := M.getD i false
theorem mkd_set (M : List Bool) (j i : Nat) (hj : j < M.length) : mkd (M.set j true) i = (decide (i = j) || mkd M i) := by
  unfold mkd
  by_cases h : i = j
  · subst h
    simp [List.getD_eq_getElem?_getD, hj]
  · simp [List.getD_eq_getElem?_getD, h, List.getElem?_set_ne (Ne.symm h)]
theorem mkd_out {M : List Bool} {i : Nat} (h : M.length ≤ i) : mkd M i = false := by
  unfold mkd
  rw [List.getD_eq_getElem?_getD, List.getElem?_eq_none h]; rfl
theorem mkd_ext {M N : List Bool} (hl : M.length = N.length) (h : ∀ i, mkd M i = mkd N i) : M = N := by
  refine List.ext_getElem hl fun i h1 h2 => ?_
  have := h i
  unfold mkd at this
  rwa [List.getD_eq_getElem?_getD, List.getElem?_eq_getElem h1, List.getD_eq_getElem?_getD, List.getElem?_eq_getElem h2] at this
def cnt : List Bool → Nat
  | [] => 0
  | b :: l => (if b then 1 else 0) + cnt l
theorem cnt_le : ∀ M, cnt M ≤ M.length
  | [] => Nat.le_refl _
  | b :: l => by
    have := cnt_le l
    simp only [cnt, List.length_cons]
    split <;> omega
theorem cnt_mono : ∀ {M N : List Bool}, M.length = N.length → (∀ i, mkd M i = true → mkd N i = true) → cnt M ≤ cnt N ∧ (cnt M = cnt N → M = N)
  | [], [], _, _ => ⟨Nat.le_refl _, fun _ => rfl⟩
  | [], _ :: _, h, _ => by cases h
  | _ :: _, [], h, _ => by cases h
  | a :: M, b :: N, h, hm => by
    have ih := cnt_mono (M := M) (N := N) (by simpa using h) fun i => by simpa [mkd] using hm (i + 1)
    have h0 : a = true → b = true := by simpa [mkd] using hm 0
    cases a with
    | true =>
      rw [h0 rfl]
      simp only [cnt]
      exact ⟨by omega, fun e => by rw [ih.2 (by simp only [if_true] at e; omega)]⟩
    | false =>
      cases b with
      | true =>
        simp only [cnt, if_true]
        refine ⟨by simp only [Bool.false_eq_true, if_false]; omega, fun e => ?_⟩
        have := ih.1
        simp only [Bool.false_eq_true, if_false] at e
        omega
      | false =>
        simp only [cnt, Bool.false_eq_true, if_false, Nat.zero_add]
        exact ⟨ih.1, fun e => by rw [ih.2 e]⟩
theorem cnt_full : ∀ {M : List Bool}, M.length ≤ cnt M → ∀ i, i < M.length → mkd M i = true
  | [], _, i, hi => by simp at hi
  | b :: l, h, i, hi => by
    have := cnt_le l
    simp only [cnt, List.length_cons] at h hi
    cases b with
    | false => simp only [Bool.false_eq_true, if_false] at h; omega
    | true =>
      cases i with
      | zero => rfl
      | succ i => simpa [mkd] using cnt_full (M := l) (by simp only [if_true] at h; omega) i (by omega)
/-- All that is held by what is marked is marked. -/
def Clo (L : List Rl) (M : List Bool) : Prop := ∀ i, i < L.length → mkd M i = true → ∀ h ∈ (L.getD i zR).holds, ∀ j, j < L.length → nmA L j = h → mkd M j = true
/-- Within a pass. -/
structure Pass (L : List Rl) (ns : List ByteArray) (M0 M : List Bool) (i : Nat) : Prop where
  len : M.length = L.length
  mono : ∀ j, mkd M0 j = true → mkd M j = true
  sound : ∀ j, j < L.length → mkd M j = true → Comes L ns (nmA L j)
  done : ∀ i', i' < i → i' < L.length → mkd M0 i' = true → ∀ h ∈ (L.getD i' zR).holds, ∀ j, j < L.length → nmA L j = h → mkd M j = true
  same : Clo L M0 → M = M0
/-- Within a role of a pass: what it holds ahead of k is marked. -/
structure PassK (L : List Rl) (ns : List ByteArray) (M0 M : List Bool) (i k : Nat) : Prop where
  p : Pass L ns M0 M i
  held : ∀ k', k' < k → k' < (L.getD i zR).holds.length → ∀ j, j < L.length → nmA L j = (L.getD i zR).holds.getD k' ByteArray.empty → mkd M j = true
theorem Pass.k {L : List Rl} {ns : List ByteArray} {M0 M : List Bool} {i : Nat} (h : Pass L ns M0 M i) : PassK L ns M0 M i 0 := ⟨h, fun _ hk => absurd hk (Nat.not_lt_zero _)⟩
theorem getB_mem {l : List ByteArray} {i : Nat} (h : i < l.length) : l.getD i ByteArray.empty ∈ l := by
  rw [List.getD_eq_getElem?_getD, List.getElem?_eq_getElem h]
  exact List.getElem_mem h
theorem PassK.next {L : List Rl} (hn : (nmL L).Nodup) {ns : List ByteArray} {M0 M : List Bool} {i k n : Nat} (h : PassK L ns M0 M i k) (hi : i < L.length) (hm : mkd M i = true) (hk : k < (L.getD i zR).holds.length)
    (hj : n < L.length) (e : nmA L n = (L.getD i zR).holds.getD k ByteArray.empty) : PassK L ns M0 (M.set n true) i (k + 1) := by
  have hl : n < M.length := by rw [h.p.len]; exact hj
  have up : ∀ j, mkd M j = true → mkd (M.set n true) j = true := fun j hj => by rw [mkd_set _ _ _ hl, hj, Bool.or_true]
  have hc : Comes L ns (nmA L n) := by
    rw [e]
    exact .step (rl_mem hi) (h.p.sound i hi hm) (getB_mem hk) (by rw [← e]; exact nmA_mem hj)
  refine ⟨⟨by rw [List.length_set]; exact h.p.len, fun j hj => up j (h.p.mono j hj), fun j hj hmj => ?_, fun i' h1 h2 h3 x hx j hj ej => up j (h.p.done i' h1 h2 h3 x hx j hj ej), fun hc0 => ?_⟩, fun k' h1 h2 j hj ej => ?_⟩
  · rw [mkd_set _ _ _ hl] at hmj
    by_cases hjn : j = n
    · subst hjn; exact hc
    · rw [decide_eq_false hjn, Bool.false_or] at hmj
      exact h.p.sound j hj hmj
  · have hs := h.p.same hc0
    subst hs
    refine mkd_ext (List.length_set ..) fun j => ?_
    rw [mkd_set _ _ _ hl]
    by_cases hjn : j = n
    · subst hjn
      rw [hc0 i hi hm _ (getB_mem hk) j hj e, Bool.or_true]
    · rw [decide_eq_false hjn, Bool.false_or]
  · rcases Nat.lt_or_ge k' k with h3 | h3
    · exact up j (h.held k' h3 h2 j hj ej)
    · obtain rfl : k' = k := by omega
      rw [mkd_set _ _ _ hl, decide_eq_true (nm_one hn hj ‹n < L.length› (ej.trans e.symm)), Bool.true_or]
theorem PassK.done {L : List Rl} {ns : List ByteArray} {M0 M : List Bool} {i k : Nat} (h : PassK L ns M0 M i k) (hk : mkd M i = false ∨ (L.getD i zR).holds.length ≤ k) : Pass L ns M0 M (i + 1) := by
  refine ⟨h.p.len, h.p.mono, h.p.sound, fun i' h1 h2 h3 x hx j hj ej => ?_, h.p.same⟩
  rcases Nat.lt_or_ge i' i with h4 | h4
  · exact h.p.done i' h4 h2 h3 x hx j hj ej
  · obtain rfl : i' = i := by omega
    rcases hk with hk | hk
    · rw [h.p.mono _ h3] at hk; cases hk
    · obtain ⟨k', hk', rfl⟩ := List.getElem_of_mem hx
      refine h.held k' (by omega) hk' j hj (ej.trans ?_)
      have hq : (L.getD i' zR).holds[k']? = some (L.getD i' zR).holds[k'] := List.getElem?_eq_getElem hk'
      rw [List.getD_eq_getElem?_getD (l := (L.getD i' zR).holds), hq]; rfl
/-- Between the passes. -/
structure Rd (L : List Rl) (ns : List ByteArray) (M : List Bool) (t : Nat) : Prop where
  len : M.length = L.length
  sound : ∀ j, j < L.length → mkd M j = true → Comes L ns (nmA L j)
  all : ∀ j, j < L.length → nmA L j ∈ ns → mkd M j = true
  far : Clo L M ∨ t ≤ cnt M
theorem Rd.pass {L : List Rl} {ns : List ByteArray} {M : List Bool} {t : Nat} (h : Rd L ns M t) : Pass L ns M M 0 :=
  ⟨h.len, fun _ h => h, h.sound, fun _ h => absurd h (Nat.not_lt_zero _), fun _ => rfl⟩
theorem Rd.next {L : List Rl} {ns : List ByteArray} {M0 M : List Bool} {t : Nat} (h : Rd L ns M0 t) (p : Pass L ns M0 M L.length) : Rd L ns M (t + 1) := by
  have hl : M0.length = M.length := h.len.trans p.len.symm
  have c := cnt_mono hl p.mono
  refine ⟨p.len, p.sound, fun j hj hm => p.mono j (h.all j hj hm), ?_⟩
  by_cases hc : cnt M0 = cnt M
  · have e := c.2 hc
    subst e
    exact .inl fun i hi hm x hx j hj ej => p.done i hi hi hm x hx j hj ej
  · rcases h.far with h1 | h1
    · rw [p.same h1]; exact .inl h1
    · have := c.1
      exact .inr (by omega)
theorem Rd.end {L : List Rl} {ns : List ByteArray} {M : List Bool} (h : Rd L ns M L.length) : ∀ j, j < L.length → (mkd M j = true ↔ Comes L ns (nmA L j)) := by
  have hc : Clo L M := by
    rcases h.far with h1 | h1
    · exact h1
    · intro i _ _ x _ j hj _
      exact cnt_full (by rw [h.len]; exact h1) j (by rw [h.len]; exact hj)
  intro j hj
  refine ⟨h.sound j hj, fun k => ?_⟩
  have key : ∀ a, Comes L ns a → ∀ j, j < L.length → nmA L j = a → mkd M j = true := fun a ha => ha.sub (S := fun a => ∀ j, j < L.length → nmA L j = a → mkd M j = true)
    (fun a ha _ j hj e => h.all j hj (e ▸ ha)) (fun r hr hs b hb _ j hj e => by
      obtain ⟨i, hi, rfl⟩ := rl_of hr
      exact hc i hi (hs i hi rfl) b hb j hj e)
  exact key _ k j hj rfl
/-! the answer, one by one -/
/-- what was found so far: the first ones, rising -/
structure Outs (L : List Rl) (ns out : List ByteArray) : Prop where
  rise : Rise out
  sound : ∀ a ∈ out, Comes L ns a
  rest : ∀ a, Comes L ns a → a ∈ out ∨ ∀ b ∈ out, ltA b a
theorem Outs.nil (L : List Rl) (ns : List ByteArray) : Outs L ns [] := ⟨List.Pairwise.nil, fun a h => by simp at h, fun a _ => .inr fun b h => by simp at h⟩
/-- is it behind all that was found? -/
def isPast (out : List ByteArray) (a : ByteArray) : Prop := ∀ b ∈ out, ltA b a
/-- the least one of those that came by, of the first i -/
inductive Least (L : List Rl) (ns out : List ByteArray) (i : Nat) : ByteArray → Prop where
  | none : (∀ j, j < i → j < L.length → Comes L ns (nmA L j) → ¬ isPast out (nmA L j)) → Least L ns out i ByteArray.empty
  | one (m : Nat) : m < i → m < L.length → Comes L ns (nmA L m) → isPast out (nmA L m) → (∀ j, j < i → j < L.length → Comes L ns (nmA L j) → isPast out (nmA L j) → ¬ ltA (nmA L j) (nmA L m)) → Least L ns out i (nmA L m)
theorem Outs.stop {L : List Rl} {ns out : List ByteArray} (h : Outs L ns out) (k : ∀ j, j < L.length → Comes L ns (nmA L j) → ¬ isPast out (nmA L j)) : IsCl L ns out := by
  refine ⟨h.rise, fun a => ⟨h.sound a, fun hc => ?_⟩⟩
  rcases h.rest a hc with h1 | h1
  · exact h1
  · obtain ⟨j, hj, rfl⟩ := nmA_of hc.mem
    exact absurd h1 (k j hj hc)
theorem Outs.more {L : List Rl} {ns out : List ByteArray} {m : Nat} (h : Outs L ns out) (hc : Comes L ns (nmA L m)) (hp : isPast out (nmA L m))
    (k : ∀ j, j < L.length → Comes L ns (nmA L j) → isPast out (nmA L j) → ¬ ltA (nmA L j) (nmA L m)) : Outs L ns (out ++ [nmA L m]) := by
  refine ⟨?_, fun a ha => ?_, fun a ha => ?_⟩
  · unfold Rise
    rw [List.pairwise_append]
    exact ⟨h.rise, by simp, fun a ha b hb => by rw [List.mem_singleton.1 hb]; exact hp a ha⟩
  · rcases List.mem_append.1 ha with h1 | h1
    · exact h.sound a h1
    · rw [List.mem_singleton.1 h1]; exact hc
  · rcases h.rest a ha with h1 | h1
    · exact .inl (List.mem_append_left _ h1)
    · obtain ⟨j, hj, rfl⟩ := nmA_of ha.mem
      rcases ltA_tot (nmA L m) (nmA L j) with h2 | h2 | h2
      · refine .inr fun b hb => ?_
        rcases List.mem_append.1 hb with h3 | h3
        · exact h1 b h3
        · rw [List.mem_singleton.1 h3]; exact h2
      · exact .inl (by rw [← h2]; simp)
      · exact absurd h2 (k j hj ha h1)
theorem Outs.few {L : List Rl} {ns out : List ByteArray} (h : Outs L ns out) : out.length ≤ L.length := by
  have := nodup_len (m := nmL L) (rise_nodup h.rise) fun a ha => (h.sound a ha).mem
  simpa [nmL] using this
/-- behind the last one of a rising row is behind all -/
theorem past_last {out : List ByteArray} (h : Rise out) (h0 : 0 < out.length) (a : ByteArray) : isPast out a ↔ ltA (out.getD (out.length - 1) ByteArray.empty) a := by
  constructor
  · intro k
    exact k _ (getB_mem (by omega))
  · intro k b hb
    obtain ⟨i, hi, rfl⟩ := List.getElem_of_mem hb
    rcases Nat.lt_or_ge i (out.length - 1) with h1 | h1
    · have h2 := List.pairwise_iff_getElem.1 h i (out.length - 1) hi (by omega) h1
      refine ltA_trans h2 ?_
      rw [List.getD_eq_getElem?_getD, List.getElem?_eq_getElem (by omega)] at k
      exact k
    · have : i = out.length - 1 := by omega
      subst this
      rw [List.getD_eq_getElem?_getD, List.getElem?_eq_getElem hi] at k
      exact k
theorem past_nil (a : ByteArray) : isPast [] a := fun b h => by simp at h
end Go.Proofs.Ytompcdmjbigigaa
