/-
  What the grammar's functions answer; loops over operators. No walks.
-/
import Derived.Test.YtkcmidhpbaepoaaDoorGPr
namespace Go.Proofs.YtkcmidhpbaepoaaDoor.G
open Go.RowKit Go.WideShapes Go.Joins

theorem GIn.lt {w : World} {Z : Nat → Prop} {A : Array Value} {g : GB} (h : GIn w Z A g) : GIn w (fun b => Z b ∧ b < w.heap.size) A g :=
  h.mono fun _ _ z hc => ⟨hc, z, World.block_lt_of_cell? _ _ hc⟩
/-- where a part ends, and which guard it is -/
def Fin (S : List Nat) (s : Sym) (σ : St) (g : GB) (σ' : St) : Prop :=
  match σ with
  | .dead p => σ' = .dead p
  | .live p => ∃ p' r, R S s p p' r ∧ (match r with | none => σ' = .dead p' | some v => σ' = .live p' ∧ g = v ∧ p < p')
/-- between the operators of a level -/
def Lp (S : List Nat) (k : Lv) (σ0 : St) (g : GB) (σ : St) : Prop :=
  match σ with
  | .live q => ∃ p0, σ0 = .live p0 ∧ p0 < q ∧ ∀ p' r, R S (.loop k g) q p' r → R S (.lv k) p0 p' r
  | .dead q => Fin S (.lv k) σ0 g (.dead q)
theorem lp_start {S : List Nat} {k : Lv} {σ0 σ : St} {g : GB} (h : Fin S (low k) σ0 g σ) : Lp S k σ0 g σ := by
  cases σ0 with
  | dead p =>
    have h : σ = .dead p := h
    subst h
    exact rfl
  | live p0 =>
    obtain ⟨p', r, hR, hr⟩ := h
    cases r with
    | none =>
      have hr : σ = .dead p' := hr
      subst hr
      exact ⟨p', none, .lv_no hR, rfl⟩
    | some v =>
      obtain ⟨rfl, rfl, hlt⟩ := hr
      exact ⟨p0, rfl, hlt, fun p'' r h' => .lv_ok hR h'⟩
theorem lp_stop {S : List Nat} {k : Lv} {σ0 σ : St} {g : GB} (h : Lp S k σ0 g σ) (hs : ∀ q, σ = .live q → opk k (tkAt S q) = none) : Fin S (.lv k) σ0 g σ := by
  cases σ with
  | dead q => exact h
  | live q =>
    obtain ⟨p0, rfl, hlt, hR⟩ := h
    exact ⟨q, some g, hR _ _ (.loop_stop (hs q rfl)), rfl, rfl, hlt⟩
theorem lp_step {S : List Nat} {k : Lv} {σ0 σ2 : St} {g h : GB} {q m : Nat} (hl : Lp S k σ0 g (.live q)) (hq : q < nx S q) (hm : opk k (tkAt S q) = some m) (hF : Fin S (low k) (.live (nx S q)) h σ2) : Lp S k σ0 (pair m g h) σ2 := by
  obtain ⟨p0, rfl, hlt, hR⟩ := hl
  obtain ⟨p', r, hR2, hr⟩ := hF
  cases r with
  | none =>
    have hr : σ2 = .dead p' := hr
    subst hr
    exact ⟨p', none, hR _ _ (.loop_no hm hR2), rfl⟩
  | some v =>
    obtain ⟨rfl, rfl, hlt2⟩ := hr
    exact ⟨p0, rfl, by omega, fun p'' r h' => hR _ _ (.loop_ok hm hR2 h')⟩
/-- what a function of the grammar answers -/
structure GrP (S : ByteArray) (s : Sym) (σ : St) (b : Nat) (w : World) (e : Ending) (w' : World) : Prop where
  ex : ∃ (k : Nat) (n : Int) (t : ByteArray) (q : Option Addr) (l c : Nat) (g : GB) (σ' : St), e = .returned (.agg (gA k n t q l c)) ∧ GIn w' (fun i => w.heap.size ≤ i) (gA k n t q l c) g ∧ PIn w' b S σ' ∧ w.grownBy w' (some b) ∧ Fin (numsOf S) s σ g σ'
/-- how much is left -/
def St.left (S : ByteArray) : St → Nat
  | .live p => S.size - p
  | .dead _ => 0
def St.meas (S : ByteArray) : St → Nat
  | .live p => S.size - p + 2
  | .dead _ => 1
/-- a function's contract, for what leaves so much -/
def Con (fn : FuncId) (S : ByteArray) (s : Sym) (b n : Nat) : Prop := ∀ (σ : St) (w : World), σ.left S ≤ n → Env w b → PIn w b S σ → Calls Tryd.prog fn #[rp b] w fun e w' => GrP S s σ b w e w'
theorem Fin.left {S : ByteArray} {s : Sym} {σ σ' : St} {g : GB} (h : Fin (numsOf S) s σ g σ') : σ'.left S ≤ σ.left S := by
  cases σ with
  | dead p =>
    have h : σ' = .dead p := h
    subst h
    exact Nat.le_refl _
  | live p =>
    obtain ⟨p', r, _, hr⟩ := h
    cases r with
    | none =>
      have hr : σ' = .dead p' := hr
      subst hr
      exact Nat.zero_le _
    | some v =>
      obtain ⟨rfl, _, hlt⟩ := hr
      show S.size - p' ≤ S.size - p
      omega
/-- a box and a result's box, while a level's operators are read -/
inductive LvI (S : ByteArray) (k : Lv) (σ0 : St) (b B : Nat) (w : World) (gk : Nat) (wr : World) : Prop where
  | intro (k1 : Nat) (n1 : Int) (t1 : ByteArray) (q1 : Option Addr) (l1 c1 : Nat) (g : GB) (σ : St) (hB : wr.heap[B]? = some (.cells (gA k1 n1 t1 q1 l1 c1) 24 (0, 0))) (hz : wr.heap[w.heap.size]? = some (.cells gz 24 (0, 0)))
      (hG : GIn wr (fun i => w.heap.size < i ∧ i ≠ B) (gA k1 n1 t1 q1 l1 c1) g) (hP : PIn wr b S σ) (hg : w.grownBy wr (some b)) (hE : Env wr b) (hl : Lp (numsOf S) k σ0 g σ) (hm : σ.meas S ≤ gk) (hle : σ.left S ≤ σ0.left S)
theorem op_ors (t : Tk) : opk .ors t = if sameC t (.wd tkOr) then some 10 else none := by cases t <;> simp [opk, sameC]
theorem op_ands (t : Tk) : opk .ands t = if sameC t (.wd tkAnd) then some 9 else none := by cases t <;> simp [opk, sameC]
theorem op_prods (t : Tk) : opk .prods t = if sameC t (.sg 42) then some 15 else none := by cases t <;> simp [opk, sameC]
theorem op_sums (t : Tk) : opk .sums t = if sameC t (.sg 43) then some 13 else if sameC t (.sg 45) then some 14 else none := by cases t <;> simp [opk, sameC]
theorem op_rel (t : Tk) : relk t = if sameC t (.sg 61) then some 11 else if sameC t (.sg 60) then some 12 else none := by cases t <;> simp [relk, sameC]
theorem vt_or : Vt (.wd tkOr) := by unfold Vt; decide
theorem vt_and : Vt (.wd tkAnd) := by unfold Vt; decide
theorem vt_sg {c : Nat} (h : isSg c = true) : Vt (.sg c) := h
end Go.Proofs.YtkcmidhpbaepoaaDoor.G
