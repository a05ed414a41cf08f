/-
  What the document's grammar functions answer; loops over operators. No walks.
-/
import Derived.Test.YtkcmidhpbaepoaaDoorGDn
namespace Go.Proofs.YtkcmidhpbaepoaaDoor.G
open Go.RowKit Go.WideShapes Go.Joins

/-- where a part ends, and which guard it is: where no token begins the reader is dead at once -/
def DFin (S : List Nat) (s : Sym) (σ : St) (g : GB) (σ' : St) : Prop :=
  match σ with
  | .dead p => σ' = .dead p
  | .live p => ∃ p' r, R S s p p' r ∧ (match r with | none => σ' = .dead p' | some v => σ' = norm S p' ∧ g = v ∧ p < p')
/-- what begins anew -/
def Fresh : Sym → Prop
  | .lv _ => True
  | .part => True
  | .atom => True
  | _ => False
theorem fresh_low (k : Lv) : Fresh (low k) := by cases k <;> exact trivial
theorem R_non_lv {S : List Nat} {p : Nat} (h : tkAt S p = .non) : R S .atom p p none ∧ R S (.lv .prods) p p none ∧ R S (.lv .sums) p p none ∧ R S .part p p none ∧ R S (.lv .ands) p p none ∧ R S (.lv .ors) p p none := by
  have h1 : R S .atom p p none := .atom_no (by rw [h]; rfl) (by rw [h]; rfl) (by rw [h]; simp)
  have h2 : R S (.lv .prods) p p none := .lv_no h1
  have h3 : R S (.lv .sums) p p none := .lv_no h2
  have h4 : R S .part p p none := .part_no (by rw [h]; simp) h3
  have h5 : R S (.lv .ands) p p none := .lv_no h4
  exact ⟨h1, h2, h3, h4, h5, .lv_no h5⟩
theorem R_non {S : List Nat} {p : Nat} {s : Sym} (hs : Fresh s) (h : tkAt S p = .non) : R S s p p none := by
  obtain ⟨h1, h2, h3, h4, h5, h6⟩ := R_non_lv h
  cases s with
  | lv k => cases k <;> assumption
  | part => exact h4
  | atom => exact h1
  | loop k g => exact absurd hs (by simp [Fresh])
  | rel g => exact absurd hs (by simp [Fresh])
theorem DFin.norm {S : List Nat} {s : Sym} {p : Nat} {g : GB} {σ' : St} (hs : Fresh s) (h : DFin S s (norm S p) g σ') : ∃ p' r, R S s p p' r ∧ (match r with | none => σ' = .dead p' | some v => σ' = G.norm S p' ∧ g = v ∧ p < p') := by
  by_cases hn : tkAt S p = .non
  · rw [norm_dead hn] at h
    exact ⟨p, none, R_non hs hn, h⟩
  · rw [norm_live hn] at h
    exact h
theorem opk_non {k : Lv} {t : Tk} (h : t = .non) : opk k t = none := by
  subst h
  cases k <;> rfl
theorem norm_cases (S : List Nat) (p : Nat) : (tkAt S p = .non ∧ norm S p = .dead p) ∨ (tkAt S p ≠ .non ∧ norm S p = .live p) := by
  by_cases h : tkAt S p = .non
  · exact .inl ⟨h, norm_dead h⟩
  · exact .inr ⟨h, norm_live h⟩
/-- between the operators of a level -/
def DLp (S : List Nat) (k : Lv) (σ0 : St) (g : GB) (σ : St) : Prop :=
  match σ with
  | .live q => ∃ p0, σ0 = .live p0 ∧ p0 < q ∧ ∀ p' r, R S (.loop k g) q p' r → R S (.lv k) p0 p' r
  | .dead q => DFin S (.lv k) σ0 g (.dead q)
theorem dlp_start {S : List Nat} {k : Lv} {σ0 σ : St} {g : GB} (h : DFin S (low k) σ0 g σ) : DLp S k σ0 g σ := by
  cases σ0 with
  | dead p =>
    have h : σ = .dead p := h
    subst h
    exact rfl
  | live p0 =>
    obtain ⟨p', r, hR, hr⟩ := h
    cases r with
    | none =>
      have hr : σ = .dead p' := hr
      subst hr
      exact ⟨p', none, .lv_no hR, rfl⟩
    | some v =>
      obtain ⟨rfl, rfl, hlt⟩ := hr
      rcases norm_cases S p' with ⟨hn, he⟩ | ⟨hn, he⟩
      · rw [he]
        exact ⟨p', some g, .lv_ok hR (.loop_stop (opk_non hn)), he.symm, rfl, hlt⟩
      · rw [he]
        exact ⟨p0, rfl, hlt, fun p'' r h' => .lv_ok hR h'⟩
theorem dlp_stop {S : List Nat} {k : Lv} {σ0 σ : St} {g : GB} (h : DLp S k σ0 g σ) (hs : ∀ q, σ = .live q → tkAt S q ≠ .non ∧ opk k (tkAt S q) = none) : DFin S (.lv k) σ0 g σ := by
  cases σ with
  | dead q => exact h
  | live q =>
    obtain ⟨p0, rfl, hlt, hR⟩ := h
    exact ⟨q, some g, hR _ _ (.loop_stop (hs q rfl).2), (norm_live (hs q rfl).1).symm, rfl, hlt⟩
theorem dlp_step {S : List Nat} {k : Lv} {σ0 σ2 : St} {g h : GB} {q m : Nat} (hl : DLp S k σ0 g (.live q)) (hq : q < nx S q) (hm : opk k (tkAt S q) = some m) (hF : DFin S (low k) (norm S (nx S q)) h σ2) : DLp S k σ0 (pair m g h) σ2 := by
  obtain ⟨p0, rfl, hlt, hR⟩ := hl
  obtain ⟨p', r, hR2, hr⟩ := hF.norm (fresh_low k)
  cases r with
  | none =>
    have hr : σ2 = .dead p' := hr
    subst hr
    exact ⟨p', none, hR _ _ (.loop_no hm hR2), rfl⟩
  | some v =>
    obtain ⟨rfl, rfl, hlt2⟩ := hr
    rcases norm_cases S p' with ⟨hn, he⟩ | ⟨hn, he⟩
    · rw [he]
      exact ⟨p', some (pair m g h), hR _ _ (.loop_ok hm hR2 (.loop_stop (opk_non hn))), he.symm, rfl, by omega⟩
    · rw [he]
      exact ⟨p0, rfl, by omega, fun p'' r h' => hR _ _ (.loop_ok hm hR2 h')⟩
/-- what a function of the document's grammar answers -/
structure DGrP (S : ByteArray) (s : Sym) (σ : St) (b : Nat) (w : World) (e : Ending) (w' : World) : Prop where
  ex : ∃ (k : Nat) (n : Int) (t : ByteArray) (q : Option Addr) (l c : Nat) (g : GB) (σ' : St), e = .returned (.agg (gA k n t q l c)) ∧ GIn w' (fun i => w.heap.size ≤ i) (gA k n t q l c) g ∧ DIn w' b S σ' ∧ w.grownBy w' (some b) ∧ DFin (numsOf S) s σ g σ'
def DCon (fn : FuncId) (S : ByteArray) (s : Sym) (b n : Nat) : Prop := ∀ (σ : St) (w : World), σ.left S ≤ n → DIn w b S σ → Calls Tryd.prog fn #[rp b] w fun e w' => DGrP S s σ b w e w'
theorem norm_left (S : ByteArray) (p : Nat) : (norm (numsOf S) p).left S ≤ S.size - p := by
  rcases norm_cases (numsOf S) p with ⟨_, he⟩ | ⟨_, he⟩
  · rw [he]; exact Nat.zero_le _
  · rw [he]; exact Nat.le_refl _
theorem DFin.left {S : ByteArray} {s : Sym} {σ σ' : St} {g : GB} (h : DFin (numsOf S) s σ g σ') : σ'.left S ≤ σ.left S := by
  cases σ with
  | dead p =>
    have h : σ' = .dead p := h
    subst h
    exact Nat.le_refl _
  | live p =>
    obtain ⟨p', r, _, hr⟩ := h
    cases r with
    | none =>
      have hr : σ' = .dead p' := hr
      subst hr
      exact Nat.zero_le _
    | some v =>
      obtain ⟨rfl, _, hlt⟩ := hr
      have := norm_left S p'
      show _ ≤ S.size - p
      omega
/-- a box and a result's box, while a level's operators are read -/
inductive DLvI (S : ByteArray) (k : Lv) (σ0 : St) (b B : Nat) (w : World) (gk : Nat) (wr : World) : Prop where
  | intro (k1 : Nat) (n1 : Int) (t1 : ByteArray) (q1 : Option Addr) (l1 c1 : Nat) (g : GB) (σ : St) (hB : wr.heap[B]? = some (.cells (gA k1 n1 t1 q1 l1 c1) 24 (0, 0))) (hz : wr.heap[w.heap.size]? = some (.cells gz 24 (0, 0)))
      (hG : GIn wr (fun i => w.heap.size < i ∧ i ≠ B) (gA k1 n1 t1 q1 l1 c1) g) (hP : DIn wr b S σ) (hg : w.grownBy wr (some b)) (hl : DLp (numsOf S) k σ0 g σ) (hm : σ.meas S ≤ gk) (hle : σ.left S ≤ σ0.left S)
theorem dop_ors (t : Tk) : opk .ors t = if t = .wd tkOr then some 10 else none := by cases t <;> simp [opk]
theorem dop_ands (t : Tk) : opk .ands t = if t = .wd tkAnd then some 9 else none := by cases t <;> simp [opk]
theorem dop_prods (t : Tk) : opk .prods t = if t = .sg 42 then some 15 else none := by cases t <;> simp [opk]
theorem dop_sums (t : Tk) : opk .sums t = if t = .sg 43 then some 13 else if t = .sg 45 then some 14 else none := by cases t <;> simp [opk]
theorem dop_rel (t : Tk) : relk t = if t = .sg 61 then some 11 else if t = .sg 60 then some 12 else none := by cases t <;> simp [relk]
theorem ask_wd {w : List Nat} (h : taken w = true) : Ask (.wd w) := h
theorem ask_sg {c : Nat} (h : isSg c = true) : Ask (.sg c) := h
theorem norm_le {S : ByteArray} {w : World} {b p : Nat} (h : DIn w b S (norm (numsOf S) p)) : p ≤ S.size := by
  have := h.le
  rw [norm_p] at this
  exact this
/-- the end of a level -/
theorem LvS.dends {S : ByteArray} {b B : Nat} {w wr : World} {k : Nat} {n : Int} {t : ByteArray} {q : Option Addr} {l c : Nat} {g : GB} {s : Sym} {σ σ' : St} (h : LvS S b B w wr (gA k n t q l c) g) (hb : b < w.heap.size) (hP : DIn wr b S σ') (hF : DFin (numsOf S) s σ g σ') :
    (set4 wr w.heap.size (.int .u8 (k : Int)) (.int .i64 n) (.string t) (.slice q l c)).heap[w.heap.size]? = some (.cells (gA k n t q l c) 24 (0, 0)) ∧
    DGrP S s σ b w (.returned (.agg (gA k n t q l c))) (set4 wr w.heap.size (.int .u8 (k : Int)) (.int .i64 n) (.string t) (.slice q l c)) := by
  have hz := h.hz
  unfold gz at hz
  refine ⟨set4_heap hz _ _ _ _, k, n, t, q, l, c, g, σ', rfl, ?_, hP.aside (set4_grown _ _ _ _ _ _) (by omega), grown_new h.hg (set4_grown _ _ _ _ _ _) (Nat.le_refl _), hF⟩
  exact (h.hG.grown (set4_grown _ _ _ _ _ _) (fun i hi => by omega)).wk fun i hi => by omega
end Go.Proofs.YtkcmidhpbaepoaaDoor.G
