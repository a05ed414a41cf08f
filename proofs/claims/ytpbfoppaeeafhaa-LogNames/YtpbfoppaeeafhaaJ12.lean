/-
  The call Do on whatever disk: its answer in one form; acts cut in two.
-/
import Derived.Test.YtpbfoppaeeafhaaJ10
import Derived.Deep.QuietTactic
import Derived.BigQuiet
namespace Go.Proofs.Ytpbfoppaeeafhaa
open Go.RowKit Go.WideShapes

theorem conv_bytes {w : World} {p : Option Addr} {xs : List Nat} (h : BIn w p xs) (c : Nat) : (convert 22 9 (.slice p xs.length c)).run Try.prog w = .ok (.string (strOf xs)) w :=
  bin_conv Try.underlying22 Try.underlying5 Try.underlying9 h rfl c
theorem str_eq {xs ys : List Nat} (hx : ∀ c ∈ xs, c < 256) (hy : ∀ c ∈ ys, c < 256) : ((strOf xs).toList == (strOf ys).toList) = decide (xs = ys) := by
  rw [ByteArray.toList_eq, ByteArray.toList_eq, Bool.eq_iff_iff]
  simp only [decide_eq_true_eq, beq_iff_eq]
  exact strOf_eq hx hy
theorem below_drewN {B : Nat} {a w : World} (h : Below B a w) (n : Nat) : Below B a (w.drewN n) := ⟨h.os, h.tape, h.output, h.size, h.block⟩
/-- Are two disks the same? -/
def SameD (c1 c2 : Int) (d1 d2 : List Nat) (w1 w2 : Puts) : Prop := c1 = c2 ∧ d1 = d2 ∧ w1 = w2
theorem same_step {w1 w2 : Puts} {k : Nat} (h1 : k < w1.length) (h2 : k < w2.length) (h : w1.take k = w2.take k) (he : w1.getD k (0, []) = w2.getD k (0, [])) : w1.take (k + 1) = w2.take (k + 1) := by
  rw [take_getD h1, take_getD h2, h, he]
theorem same_not {w1 w2 : Puts} {k : Nat} (he : w1.getD k (0, []) ≠ w2.getD k (0, [])) : w1 ≠ w2 := fun h => he (by rw [h])
theorem same_all {w1 w2 : Puts} (hl : w1.length = w2.length) (h : w1.take w1.length = w2.take w1.length) : w1 = w2 := by
  rw [List.take_length, hl, List.take_length] at h; exact h

end Go.Proofs.Ytpbfoppaeeafhaa
namespace Go.Proofs.Ytpbfoppaeeafhaa
open Go.RowKit Go.WideShapes

def onesK (x k : Nat) : List Nat := List.replicate k x ++ List.replicate (128 - k) 0
theorem onesK_len (x k : Nat) (h : k ≤ 128) : (onesK x k).length = 128 := by simp [onesK]; omega
theorem onesK_step (x k : Nat) (h : k < 128) : (onesK x k).set k x = onesK x (k + 1) := by
  unfold onesK
  rw [List.set_append_right _ _ (by simp), List.length_replicate, Nat.sub_self, show 128 - k = (128 - (k + 1)) + 1 from by omega, List.replicate_succ, List.set_cons_zero, List.replicate_succ', List.append_assoc]
  rfl
theorem Bs_set (xs : List Nat) (k x : Nat) : (Bs xs).toArray.setIfInBounds k (.int .u8 x) = (Bs (xs.set k x)).toArray := by
  simp [Bs, List.map_set]

/-- Is a disk larger than the statements go through? -/
def largeN (count : Int) (data : List Nat) (ws : Puts) : Prop := (40000 < data.length ∧ 0 < count ∧ count ≤ 4096) ∨ 600000 < data.length ∨ (300 < ws.length ∧ ws.length < 4090) ∨ 4200 < ws.length
instance (count : Int) (data : List Nat) (ws : Puts) : Decidable (largeN count data ws) := by unfold largeN; infer_instance
end Go.Proofs.Ytpbfoppaeeafhaa
namespace Go.Proofs.Ytpbfoppaeeafhaa
open Go.RowKit Go.WideShapes
attribute [local go_sem ↓] Go.wp_at_zero Go.wp_at_succ

def onesL (x : Nat) : List Nat := List.replicate 128 x
def zeroL (n : Nat) : List Nat := List.replicate (n * 128) 0
theorem onesL_len (x : Nat) : 128 = (onesL x).length := by simp only [onesL, List.length_replicate]
theorem onesL_mem (x : Nat) (h : x < 256) : ∀ c ∈ onesL x, c < 256 := fun c hc => by rw [(List.mem_replicate.1 hc).2]; exact h
theorem zeroL_len (n : Nat) : (zeroL n).length = n * 128 := List.length_replicate
theorem okay_new (n : Nat) (h1 : 1 ≤ n) (h2 : n ≤ 4096) : Okay n (zeroL n) [] := ⟨by omega, by omega, by rw [zeroL_len]; omega, by simp, by simp⟩
theorem sec_zero (n k : Nat) (h : k < n) : secN (zeroL n) k = onesL 0 := by
  unfold secN zeroL onesL
  rw [List.drop_replicate, List.take_replicate]
  congr 1
  omega
theorem new_at (n : Nat) (w : World) (h1 : 1 ≤ n) (h2 : n ≤ 4096) :
    Calls Try.prog 9 #[.int .i64 n] w fun e w' => ∃ v, e = .returned (.tuple #[v, .int .i64 0]) ∧ DiskNew w' w.heap.size v n (zeroL n) [] ∧ Below w.heap.size w w' := new_ok n w h1 h2
theorem DiskNew.form {w : World} {base : Nat} {v : Value} {count : Int} {data : List Nat} {ws : Puts} (h : DiskNew w base v count data ws) : ∃ gd L q M m, v = .agg #[.int .i64 count, .slice (some ⟨gd, 0, none⟩) L L, .slice q M m] := by
  obtain ⟨gd, q, m, gs, h1, _⟩ := h.lies
  exact ⟨gd, _, q, _, m, h1⟩
theorem SecNew.form {w : World} {base : Nat} {v : Value} {xs : List Nat} (h : SecNew w base v xs) : ∃ g, v = .slice (some ⟨g, 0, none⟩) 128 128 ∧ base ≤ g ∧ BIn w (some ⟨g, 0, none⟩) xs ∧ xs.length = 128 := by
  obtain ⟨g, h1, h2, h3, h4, h5⟩ := h
  exact ⟨g, h1, h2, bin_row h3 h5, h4⟩
theorem conv_atD {w : World} {p : Option Addr} {xs : List Nat} {n c : Nat} (h : BIn w p xs) (hn : n = xs.length) : (convert 22 9 (.slice p n c)).run Try.prog w = .ok (.string (strOf xs)) w := by
  subst hn; exact conv_bytes h c
theorem alive_step : stepA 2 (zeroL 2, []) (false, 1, onesL 1) = .ok (zeroL 2, [(1, onesL 1)]) := by
  have := onesL_len 1
  simp [stepA, ← this]
theorem alive_okay : Okay 2 (zeroL 2) [(1, onesL 1)] := okay_step (s := (zeroL 2, [])) (s' := (zeroL 2, [(1, onesL 1)])) (okay_new 2 (by decide) (by decide)) alive_step
theorem alive_now : nowN (zeroL 2) [(1, onesL 1)] ((1 : Nat) : Int) = onesL 1 := by simp [nowN, nowK]

/-- Two sectors that were read, read as strings. -/
theorem keepC0 {WS w' : World} {g6 g7 : Nat} {x y : Nat} (h6 : BIn WS (some ⟨g6, 0, none⟩) (onesL x)) (h7 : BIn WS (some ⟨g7, 0, none⟩) (onesL y)) (hb : Below WS.heap.size WS w') :
    (convert 22 9 (.slice (some ⟨g6, 0, none⟩) 128 128)).run Try.prog w' = .ok (.string (strOf (onesL x))) w' ∧ (convert 22 9 (.slice (some ⟨g7, 0, none⟩) 128 128)).run Try.prog w' = .ok (.string (strOf (onesL y))) w' ∧ Hid (Below WS.heap.size WS w') :=
  ⟨conv_atD (h6.below hb) (onesL_len x), conv_atD (h7.below hb) (onesL_len y), hb⟩
end Go.Proofs.Ytpbfoppaeeafhaa
namespace Go.Proofs.Ytpbfoppaeeafhaa
open Go.RowKit Go.WideShapes

theorem bools_one {X : World} {b : Bool} {t : TypeId} {H : Nat} (hH : H = X.heap.size) : BoolsIn (X.alloc (.cells #[.bool b] t)) (some ⟨H, 0, none⟩) [b] := by
  subst hH
  intro _
  refine ⟨X.heap.size, 0, rfl, fun i hi => ?_⟩
  obtain rfl : i = 0 := by simpa using hi
  exact cell_of_row _ _ _ _ _ _ (heap_alloc_new X _)
theorem names_a : secN (settleN (zeroL 2) [(1, onesL 1)]) 1 = onesL 1 := by
  have := sec_settle alive_okay (n := 1) (by decide) 1 (by decide)
  have e : settleN (zeroL 2) [(1, onesL 1)] = settleK (zeroL 2) [(1, onesL 1)] 1 := rfl
  rw [e, this]
  simp [nowK]
theorem names_b : secN (crashN (zeroL 2) [(1, onesL 1)] [true]) 1 = onesL 1 := by
  have e : crashN (zeroL 2) [(1, onesL 1)] [true] = settleN (zeroL 2) [(1, onesL 1)] := crash_all (fun k hk => by have : k = 0 := by simpa using hk
                                                                                                                  subst this; rfl) _ (Nat.le_refl _)
  rw [e, names_a]
theorem names_c : secN (crashN (zeroL 2) [(1, onesL 1)] []) 1 = onesL 0 := by
  rw [crashN, crash_none, sec_zero 2 1 (by decide)]
theorem diskIn_puts {w : World} {count : Int} {data : List Nat} {ws : Puts} {p q : Option Addr} {n c M m : Nat} (h : DiskIn w (.agg #[.int .i64 count, .slice p n c, .slice q M m]) count data ws) : PutsIn w q ws := by
  obtain ⟨p', c', q', m', e, _, _, _, _, hq, _⟩ := h.parts
  simp only [Value.agg.injEq, Array.mk.injEq, List.cons.injEq, Value.slice.injEq, and_true, true_and] at e
  rw [e.2.1]
  exact hq
end Go.Proofs.Ytpbfoppaeeafhaa
namespace Go.Proofs.Ytpbfoppaeeafhaa
open Go.RowKit Go.WideShapes

/-- What Do comes to, on whatever disk. -/
noncomputable def doAny (count : Int) (data : List Nat) (ws : Puts) (l : Acts) : Except Int (List Nat × Puts) := if errC count data ws = 0 then doN count (data, ws) l else .error 20
theorem doAny_ok {count : Int} {data : List Nat} {ws : Puts} (l : Acts) (h : Okay count data ws) : doAny count data ws l = doN count (data, ws) l := by simp [doAny, errC_ok h]
theorem doAny_bad {count : Int} {data : List Nat} {ws : Puts} (l : Acts) (h : ¬ Okay count data ws) : doAny count data ws l = .error 20 := by simp [doAny, errC_bad h]
def resE : Except Int (List Nat × Puts) → Int
  | .ok _ => 0
  | .error c => c
def resC (count : Int) : Except Int (List Nat × Puts) → Int
  | .ok _ => count
  | .error _ => 0
def resD : Except Int (List Nat × Puts) → List Nat
  | .ok s => s.1
  | .error _ => []
def resW : Except Int (List Nat × Puts) → Puts
  | .ok s => s.2
  | .error _ => []
theorem stepA_err {count : Int} {s : List Nat × Puts} {a : Bool × Int × List Nat} {c : Int} (h : stepA count s a = .error c) : c ≠ 0 := by
  unfold stepA at h
  split at h
  · cases h
  · split at h
    · cases h; decide
    · split at h
      · cases h; decide
      · split at h
        · cases h; decide
        · cases h
theorem doN_err {count : Int} (l : Acts) : ∀ {s : List Nat × Puts} {c : Int}, doN count s l = .error c → c ≠ 0 := by
  induction l with
  | nil => intro s c h; cases h
  | cons a l ih =>
    intro s c h
    simp only [doN] at h
    cases e : stepA count s a with
    | ok t => rw [e] at h; exact ih h
    | error d => rw [e] at h; cases h; exact stepA_err e
theorem doAny_err {count : Int} {data : List Nat} {ws : Puts} {l : Acts} {c : Int} (h : doAny count data ws l = .error c) : c ≠ 0 := by
  by_cases ho : Okay count data ws
  · rw [doAny_ok l ho] at h; exact doN_err l h
  · rw [doAny_bad l ho] at h; cases h; decide
theorem doAny_okay {count : Int} {data : List Nat} {ws : Puts} {l : Acts} {s : List Nat × Puts} (h : doAny count data ws l = .ok s) : Okay count s.1 s.2 := by
  by_cases ho : Okay count data ws
  · rw [doAny_ok l ho] at h; exact okay_do l (s := (data, ws)) ho h
  · rw [doAny_bad l ho] at h; cases h
theorem zero_in (w : World) : DiskIn w zeroDisk 0 [] [] :=
  ⟨⟨_, none, 0, rfl, ⟨none, 0, rfl, ⟨fun h => absurd h (by simp), by simp⟩, by simp, by unfold maxLen; omega, fun _ => rfl⟩, fun h => absurd h (by simp), by simp, by unfold maxLen; omega, fun _ => rfl⟩, by decide, by simp⟩
/-- A disk that reads so wherever the blocks from base on, that are there, are as they are. -/
def DiskF (base : Nat) (w : World) (v : Value) (count : Int) (data : List Nat) (ws : Puts) : Prop := ∀ w2 : World, (∀ k : Nat, base ≤ k → k < w.heap.size → w2.heap[k]? = w.heap[k]?) → DiskIn w2 v count data ws
theorem DiskF.self {base : Nat} {w : World} {v : Value} {count : Int} {data : List Nat} {ws : Puts} (h : DiskF base w v count data ws) : DiskIn w v count data ws := h w (fun _ _ _ => rfl)
theorem DiskF.below {base : Nat} {w w' : World} {v : Value} {count : Int} {data : List Nat} {ws : Puts} (h : DiskF base w v count data ws) (hb : Below w.heap.size w w') : DiskIn w' v count data ws := h w' (fun k _ hk => hb.block k hk)
theorem DiskF.set3 {base B : Nat} {w : World} {v : Value} {count : Int} {data : List Nat} {ws : Puts} (h : DiskF base w v count data ws) (hB : B < base) (a b c : Value) : DiskIn (((w.setCell ⟨B, 0, none⟩ a).setCell ⟨B, 1, none⟩ b).setCell ⟨B, 2, none⟩ c) v count data ws :=
  h _ (fun k hk _ => set3_other w B k a b c (by omega))
theorem PutsOwn.keepB {w w' : World} {base : Nat} {v : Value} {ws : Puts} {gs : List Nat} (h : PutsOwn w base v ws gs) (hk : ∀ k, base ≤ k → k < w.heap.size → w'.heap[k]? = w.heap[k]?) : PutsOwn w' base v ws gs :=
  h.keep (fun g _ hv e => hk g (h.row.lt g hv).1 (lt_heap e)) (fun i hi => hk _ (h.rows i hi).1 (lt_heap (h.rows i hi).2))
theorem DiskNew.fresh {w : World} {base : Nat} {v : Value} {count : Int} {data : List Nat} {ws : Puts} (h : DiskNew w base v count data ws) (ho : Okay count data ws) : DiskF base w v count data ws := by
  intro w2 hk
  obtain ⟨gd, q, m, gs, h1, h2, h3, h4, h5⟩ := h.lies
  have : DiskNew w2 base v count data ws := ⟨⟨gd, q, m, gs, h1, h2, (hk gd h2 (lt_heap h3)).trans h3, h4.keepB hk, h5⟩, h.bytes⟩
  exact this.toIn ho
theorem do_all (v : Value) (count : Int) (data : List Nat) (ws : Puts) (w : World) (hd : DiskIn w v count data ws) (q : Option Addr) (n m : Nat) (l : Acts) (hn : n = l.length) (hl : ActsIn w q l) (hll : l.length ≤ 9223372036854775807) (r : Except Int (List Nat × Puts)) (hr : doAny count data ws l = r) :
    Calls Try.prog 15 #[v, .slice q n m] w fun e w' => (∃ v', e = .returned (.tuple #[v', .int .i64 (resE r)]) ∧ DiskF w.heap.size w' v' (resC count r) (resD r) (resW r)) ∧ Below w.heap.size w w' := by
  subst hn
  subst hr
  by_cases ho : Okay count data ws
  · rw [doAny_ok l ho]
    refine (do_ok v count data ws w hd ho q m l hl hll).mono ?_
    rintro e w' ⟨hp, hb⟩
    refine ⟨?_, hb⟩
    generalize hr : doN count (data, ws) l = r at *
    cases hp with
    | err c => exact ⟨_, rfl, fun w2 _ => zero_in w2⟩
    | ok d2 w2 v2 _ hnew => exact ⟨_, rfl, hnew.fresh (okay_do l (s := (data, ws)) (s' := (d2, w2)) ho hr)⟩
  · rw [doAny_bad l ho]
    refine (do_bad v _ count data ws w hd ho).mono ?_
    rintro e w' ⟨rfl, hb⟩
    exact ⟨⟨_, rfl, fun w2 _ => zero_in w2⟩, hb⟩
theorem doAny_fail {count : Int} {data : List Nat} {ws : Puts} {l : Acts} {k : Nat} {c : Int} (h : doAny count data ws (l.take k) = .error c) : doAny count data ws l = .error c := by
  by_cases ho : Okay count data ws
  · rw [doAny_ok _ ho] at h ⊢; exact doN_fail h
  · rw [doAny_bad _ ho] at h ⊢; exact h
theorem doAny_cut {count : Int} {data : List Nat} {ws : Puts} {l : Acts} {k : Nat} {s : List Nat × Puts} (h : doAny count data ws (l.take k) = .ok s) : doAny count s.1 s.2 (l.drop k) = doAny count data ws l := by
  have hs := doAny_okay h
  by_cases ho : Okay count data ws
  · rw [doAny_ok _ ho] at h ⊢
    rw [doAny_ok _ hs]
    conv => rhs; rw [← List.take_append_drop k l, doN_app, h]
  · rw [doAny_bad _ ho] at h; cases h
theorem acts_take {w : World} {q : Option Addr} {l : Acts} (h : ActsIn w q l) (k : Nat) : ActsIn w q (l.take k) := by
  intro hp
  simp only [List.length_take] at hp
  obtain ⟨b, o, rfl, hc⟩ := h (by omega)
  refine ⟨b, o, rfl, fun i hi => ?_⟩
  simp only [List.length_take] at hi
  have e : (l.take k).getD i (false, 0, []) = l.getD i (false, 0, []) := by simp [List.getD, show i < k from by omega]
  rw [e]
  exact hc i (by omega)
theorem acts_drop {w : World} {b o : Nat} {l : Acts} (h : ActsIn w (some ⟨b, o, none⟩) l) (k : Nat) (A : Option Addr) (hA : k < l.length → A = some ⟨b, o + k * 3, none⟩) : ActsIn w A (l.drop k) := by
  intro hp
  simp only [List.length_drop] at hp
  obtain ⟨b', o', e, hc⟩ := h (by omega)
  simp only [Option.some.injEq, Addr.mk.injEq, and_true] at e
  obtain ⟨rfl, rfl⟩ := e
  refine ⟨b, o + k * 3, hA (by omega), fun i hi => ?_⟩
  simp only [List.length_drop] at hi
  have e : (l.drop k).getD i (false, 0, []) = l.getD (k + i) (false, 0, []) := by simp [List.getD]
  rw [e]
  have := hc (k + i) (by omega)
  rw [show o + k * 3 + i * 3 = o + (k + i) * 3 from by omega, show o + k * 3 + (i * 3 + 1) = o + ((k + i) * 3 + 1) from by omega, show o + k * 3 + (i * 3 + 2) = o + ((k + i) * 3 + 2) from by omega]
  exact this
end Go.Proofs.Ytpbfoppaeeafhaa
