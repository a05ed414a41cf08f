/-
  What the statements call: turned.
-/
import Derived.Test.YtkgmhmhphgaclabGreatDoorJ34
namespace Go.Proofs.YtkgmhmhphgaclabGreatDoor
set_option maxRecDepth 8000
open Go.RowKit Go.WideShapes
attribute [local go_sem ↓] Go.wp_at_zero Go.wp_at_succ

def onesL (x : Nat) : List Nat := List.replicate 128 x
def zeroL (n : Nat) : List Nat := List.replicate (n * 128) 0
theorem onesL_len (x : Nat) : 128 = (onesL x).length := by simp only [onesL, List.length_replicate]
theorem onesL_mem (x : Nat) (h : x < 256) : ∀ c ∈ onesL x, c < 256 := fun c hc => by rw [(List.mem_replicate.1 hc).2]; exact h
theorem zeroL_len (n : Nat) : (zeroL n).length = n * 128 := List.length_replicate
theorem okay_new (n : Nat) (h1 : 1 ≤ n) (h2 : n ≤ 4096) : Okay n (zeroL n) [] := ⟨by omega, by omega, by rw [zeroL_len]; omega, by simp, by simp⟩
theorem sec_zero (n k : Nat) (h : k < n) : secN (zeroL n) k = onesL 0 := by
  unfold secN zeroL onesL
  rw [List.drop_replicate, List.take_replicate]
  congr 1
  omega
theorem new_at (n : Nat) (w : World) (h1 : 1 ≤ n) (h2 : n ≤ 4096) :
    Calls Tryz.prog 69 #[.int .i64 n] w fun e w' => ∃ v, e = .returned (.tuple #[v, .int .i64 0]) ∧ DiskNew w' w.heap.size v n (zeroL n) [] ∧ Below w.heap.size w w' := new_ok n w h1 h2
theorem DiskNew.form {w : World} {base : Nat} {v : Value} {count : Int} {data : List Nat} {ws : Puts} (h : DiskNew w base v count data ws) : ∃ gd L q M m, v = .agg #[.int .i64 count, .slice (some ⟨gd, 0, none⟩) L L, .slice q M m] := by
  obtain ⟨gd, q, m, gs, h1, _⟩ := h.lies
  exact ⟨gd, _, q, _, m, h1⟩
theorem SecNew.form {w : World} {base : Nat} {v : Value} {xs : List Nat} (h : SecNew w base v xs) : ∃ g, v = .slice (some ⟨g, 0, none⟩) 128 128 ∧ base ≤ g ∧ BIn w (some ⟨g, 0, none⟩) xs ∧ xs.length = 128 := by
  obtain ⟨g, h1, h2, h3, h4, h5⟩ := h
  exact ⟨g, h1, h2, bin_row h3 h5, h4⟩
theorem conv_atD {w : World} {p : Option Addr} {xs : List Nat} {n c : Nat} (h : BIn w p xs) (hn : n = xs.length) : (convert 22 9 (.slice p n c)).run Tryz.prog w = .ok (.string (strOf xs)) w := by
  subst hn; exact conv_bytes h c
theorem alive_step : stepA 2 (zeroL 2, []) (false, 1, onesL 1) = .ok (zeroL 2, [(1, onesL 1)]) := by
  have := onesL_len 1
  simp [stepA, ← this]
theorem alive_okay : Okay 2 (zeroL 2) [(1, onesL 1)] := okay_step (s := (zeroL 2, [])) (s' := (zeroL 2, [(1, onesL 1)])) (okay_new 2 (by decide) (by decide)) alive_step
theorem alive_now : nowN (zeroL 2) [(1, onesL 1)] ((1 : Nat) : Int) = onesL 1 := by simp [nowN, nowK]

/-- Two sectors that were read, read as strings. -/
theorem keepC0 {WS w' : World} {g6 g7 : Nat} {x y : Nat} (h6 : BIn WS (some ⟨g6, 0, none⟩) (onesL x)) (h7 : BIn WS (some ⟨g7, 0, none⟩) (onesL y)) (hb : Below WS.heap.size WS w') :
    (convert 22 9 (.slice (some ⟨g6, 0, none⟩) 128 128)).run Tryz.prog w' = .ok (.string (strOf (onesL x))) w' ∧ (convert 22 9 (.slice (some ⟨g7, 0, none⟩) 128 128)).run Tryz.prog w' = .ok (.string (strOf (onesL y))) w' ∧ Hid (Below WS.heap.size WS w') :=
  ⟨conv_atD (h6.below hb) (onesL_len x), conv_atD (h7.below hb) (onesL_len y), hb⟩
end Go.Proofs.YtkgmhmhphgaclabGreatDoor
namespace Go.Proofs.YtkgmhmhphgaclabGreatDoor
set_option maxRecDepth 8000
open Go.RowKit Go.WideShapes

theorem bools_one {X : World} {b : Bool} {t : TypeId} {H : Nat} (hH : H = X.heap.size) : BoolsIn (X.alloc (.cells #[.bool b] t)) (some ⟨H, 0, none⟩) [b] := by
  subst hH
  intro _
  refine ⟨X.heap.size, 0, rfl, fun i hi => ?_⟩
  obtain rfl : i = 0 := by simpa using hi
  exact cell_of_row _ _ _ _ _ _ (heap_alloc_new X _)
theorem names_a : secN (settleN (zeroL 2) [(1, onesL 1)]) 1 = onesL 1 := by
  have := sec_settle alive_okay (n := 1) (by decide) 1 (by decide)
  have e : settleN (zeroL 2) [(1, onesL 1)] = settleK (zeroL 2) [(1, onesL 1)] 1 := rfl
  rw [e, this]
  simp [nowK]
theorem names_b : secN (crashN (zeroL 2) [(1, onesL 1)] [true]) 1 = onesL 1 := by
  have e : crashN (zeroL 2) [(1, onesL 1)] [true] = settleN (zeroL 2) [(1, onesL 1)] := crash_all (fun k hk => by have : k = 0 := by simpa using hk
                                                                                                                  subst this; rfl) _ (Nat.le_refl _)
  rw [e, names_a]
theorem names_c : secN (crashN (zeroL 2) [(1, onesL 1)] []) 1 = onesL 0 := by
  rw [crashN, crash_none, sec_zero 2 1 (by decide)]
theorem diskIn_puts {w : World} {count : Int} {data : List Nat} {ws : Puts} {p q : Option Addr} {n c M m : Nat} (h : DiskIn w (.agg #[.int .i64 count, .slice p n c, .slice q M m]) count data ws) : PutsIn w q ws := by
  obtain ⟨p', c', q', m', e, _, _, _, _, hq, _⟩ := h.parts
  simp only [Value.agg.injEq, Array.mk.injEq, List.cons.injEq, Value.slice.injEq, and_true, true_and] at e
  rw [e.2.1]
  exact hq
end Go.Proofs.YtkgmhmhphgaclabGreatDoor
namespace Go.Proofs.YtkgmhmhphgaclabGreatDoor
set_option maxRecDepth 8000
open Go.RowKit Go.WideShapes

/-- What Do comes to, on whatever disk. -/
noncomputable def doAny (count : Int) (data : List Nat) (ws : Puts) (l : Acts) : Except Int (List Nat × Puts) := if errC count data ws = 0 then doN count (data, ws) l else .error 20
theorem doAny_ok {count : Int} {data : List Nat} {ws : Puts} (l : Acts) (h : Okay count data ws) : doAny count data ws l = doN count (data, ws) l := by simp [doAny, errC_ok h]
theorem doAny_bad {count : Int} {data : List Nat} {ws : Puts} (l : Acts) (h : ¬ Okay count data ws) : doAny count data ws l = .error 20 := by simp [doAny, errC_bad h]
def resE : Except Int (List Nat × Puts) → Int
  | .ok _ => 0
  | .error c => c
def resC (count : Int) : Except Int (List Nat × Puts) → Int
  | .ok _ => count
  | .error _ => 0
def resD : Except Int (List Nat × Puts) → List Nat
  | .ok s => s.1
  | .error _ => []
def resW : Except Int (List Nat × Puts) → Puts
  | .ok s => s.2
  | .error _ => []
theorem stepA_err {count : Int} {s : List Nat × Puts} {a : Bool × Int × List Nat} {c : Int} (h : stepA count s a = .error c) : c ≠ 0 := by
  unfold stepA at h
  split at h
  · cases h
  · split at h
    · cases h; decide
    · split at h
      · cases h; decide
      · split at h
        · cases h; decide
        · cases h
theorem doN_err {count : Int} (l : Acts) : ∀ {s : List Nat × Puts} {c : Int}, doN count s l = .error c → c ≠ 0 := by
  induction l with
  | nil => intro s c h; cases h
  | cons a l ih =>
    intro s c h
    simp only [doN] at h
    cases e : stepA count s a with
    | ok t => rw [e] at h; exact ih h
    | error d => rw [e] at h; cases h; exact stepA_err e
theorem doAny_err {count : Int} {data : List Nat} {ws : Puts} {l : Acts} {c : Int} (h : doAny count data ws l = .error c) : c ≠ 0 := by
  by_cases ho : Okay count data ws
  · rw [doAny_ok l ho] at h; exact doN_err l h
  · rw [doAny_bad l ho] at h; cases h; decide
theorem doAny_okay {count : Int} {data : List Nat} {ws : Puts} {l : Acts} {s : List Nat × Puts} (h : doAny count data ws l = .ok s) : Okay count s.1 s.2 := by
  by_cases ho : Okay count data ws
  · rw [doAny_ok l ho] at h; exact okay_do l (s := (data, ws)) ho h
  · rw [doAny_bad l ho] at h; cases h
theorem zero_in (w : World) : DiskIn w zeroDisk 0 [] [] :=
  ⟨⟨_, none, 0, rfl, ⟨none, 0, rfl, ⟨fun h => absurd h (by simp), by simp⟩, by simp, by unfold maxLen; omega, fun _ => rfl⟩, fun h => absurd h (by simp), by simp, by unfold maxLen; omega, fun _ => rfl⟩, by decide, by simp⟩
/-- A disk that reads so wherever the blocks from base on, that are there, are as they are. -/
def DiskF (base : Nat) (w : World) (v : Value) (count : Int) (data : List Nat) (ws : Puts) : Prop := ∀ w2 : World, (∀ k : Nat, base ≤ k → k < w.heap.size → w2.heap[k]? = w.heap[k]?) → DiskIn w2 v count data ws
theorem DiskF.self {base : Nat} {w : World} {v : Value} {count : Int} {data : List Nat} {ws : Puts} (h : DiskF base w v count data ws) : DiskIn w v count data ws := h w (fun _ _ _ => rfl)
theorem DiskF.below {base : Nat} {w w' : World} {v : Value} {count : Int} {data : List Nat} {ws : Puts} (h : DiskF base w v count data ws) (hb : Below w.heap.size w w') : DiskIn w' v count data ws := h w' (fun k _ hk => hb.block k hk)
theorem DiskF.set3 {base B : Nat} {w : World} {v : Value} {count : Int} {data : List Nat} {ws : Puts} (h : DiskF base w v count data ws) (hB : B < base) (a b c : Value) : DiskIn (((w.setCell ⟨B, 0, none⟩ a).setCell ⟨B, 1, none⟩ b).setCell ⟨B, 2, none⟩ c) v count data ws :=
  h _ (fun k hk _ => set3_other w B k a b c (by omega))
theorem PutsOwn.keepB {w w' : World} {base : Nat} {v : Value} {ws : Puts} {gs : List Nat} (h : PutsOwn w base v ws gs) (hk : ∀ k, base ≤ k → k < w.heap.size → w'.heap[k]? = w.heap[k]?) : PutsOwn w' base v ws gs :=
  h.keep (fun g _ hv e => hk g (h.row.lt g hv).1 (lt_heap e)) (fun i hi => hk _ (h.rows i hi).1 (lt_heap (h.rows i hi).2))
theorem DiskNew.fresh {w : World} {base : Nat} {v : Value} {count : Int} {data : List Nat} {ws : Puts} (h : DiskNew w base v count data ws) (ho : Okay count data ws) : DiskF base w v count data ws := by
  intro w2 hk
  obtain ⟨gd, q, m, gs, h1, h2, h3, h4, h5⟩ := h.lies
  have : DiskNew w2 base v count data ws := ⟨⟨gd, q, m, gs, h1, h2, (hk gd h2 (lt_heap h3)).trans h3, h4.keepB hk, h5⟩, h.bytes⟩
  exact this.toIn ho
theorem do_all (v : Value) (count : Int) (data : List Nat) (ws : Puts) (w : World) (hd : DiskIn w v count data ws) (q : Option Addr) (n m : Nat) (l : Acts) (hn : n = l.length) (hl : ActsIn w q l) (hll : l.length ≤ 9223372036854775807) (r : Except Int (List Nat × Puts)) (hr : doAny count data ws l = r) :
    Calls Tryz.prog 11 #[v, .slice q n m] w fun e w' => (∃ v', e = .returned (.tuple #[v', .int .i64 (resE r)]) ∧ DiskF w.heap.size w' v' (resC count r) (resD r) (resW r)) ∧ Below w.heap.size w w' := by
  subst hn
  subst hr
  by_cases ho : Okay count data ws
  · rw [doAny_ok l ho]
    refine (do_ok v count data ws w hd ho q m l hl hll).mono ?_
    rintro e w' ⟨hp, hb⟩
    refine ⟨?_, hb⟩
    generalize hr : doN count (data, ws) l = r at *
    cases hp with
    | err c => exact ⟨_, rfl, fun w2 _ => zero_in w2⟩
    | ok d2 w2 v2 _ hnew => exact ⟨_, rfl, hnew.fresh (okay_do l (s := (data, ws)) (s' := (d2, w2)) ho hr)⟩
  · rw [doAny_bad l ho]
    refine (do_bad v _ count data ws w hd ho).mono ?_
    rintro e w' ⟨rfl, hb⟩
    exact ⟨⟨_, rfl, fun w2 _ => zero_in w2⟩, hb⟩
theorem doAny_fail {count : Int} {data : List Nat} {ws : Puts} {l : Acts} {k : Nat} {c : Int} (h : doAny count data ws (l.take k) = .error c) : doAny count data ws l = .error c := by
  by_cases ho : Okay count data ws
  · rw [doAny_ok _ ho] at h ⊢; exact doN_fail h
  · rw [doAny_bad _ ho] at h ⊢; exact h
theorem doAny_cut {count : Int} {data : List Nat} {ws : Puts} {l : Acts} {k : Nat} {s : List Nat × Puts} (h : doAny count data ws (l.take k) = .ok s) : doAny count s.1 s.2 (l.drop k) = doAny count data ws l := by
  have hs := doAny_okay h
  by_cases ho : Okay count data ws
  · rw [doAny_ok _ ho] at h ⊢
    rw [doAny_ok _ hs]
    conv => rhs; rw [← List.take_append_drop k l, doN_app, h]
  · rw [doAny_bad _ ho] at h; cases h
theorem acts_take {w : World} {q : Option Addr} {l : Acts} (h : ActsIn w q l) (k : Nat) : ActsIn w q (l.take k) := by
  intro hp
  simp only [List.length_take] at hp
  obtain ⟨b, o, rfl, hc⟩ := h (by omega)
  refine ⟨b, o, rfl, fun i hi => ?_⟩
  simp only [List.length_take] at hi
  have e : (l.take k).getD i (false, 0, []) = l.getD i (false, 0, []) := by simp [List.getD, show i < k from by omega]
  rw [e]
  exact hc i (by omega)
theorem acts_drop {w : World} {b o : Nat} {l : Acts} (h : ActsIn w (some ⟨b, o, none⟩) l) (k : Nat) (A : Option Addr) (hA : k < l.length → A = some ⟨b, o + k * 3, none⟩) : ActsIn w A (l.drop k) := by
  intro hp
  simp only [List.length_drop] at hp
  obtain ⟨b', o', e, hc⟩ := h (by omega)
  simp only [Option.some.injEq, Addr.mk.injEq, and_true] at e
  obtain ⟨rfl, rfl⟩ := e
  refine ⟨b, o + k * 3, hA (by omega), fun i hi => ?_⟩
  simp only [List.length_drop] at hi
  have e : (l.drop k).getD i (false, 0, []) = l.getD (k + i) (false, 0, []) := by simp [List.getD]
  rw [e]
  have := hc (k + i) (by omega)
  rw [show o + k * 3 + i * 3 = o + (k + i) * 3 from by omega, show o + k * 3 + (i * 3 + 1) = o + ((k + i) * 3 + 1) from by omega, show o + k * 3 + (i * 3 + 2) = o + ((k + i) * 3 + 2) from by omega]
  exact this
end Go.Proofs.YtkgmhmhphgaclabGreatDoor
namespace Go.Proofs.YtkgmhmhphgaclabGreatDoor
open Go.RowKit Go.WideShapes Rm

theorem DiskF.to {base base' : Nat} {w w' : World} {v : Value} {count : Int} {data : List Nat} {ws : Puts} (h : DiskF base w v count data ws) (hb : base' ≤ base) (hs : w'.heap.size = w.heap.size) (hk : ∀ k : Nat, base ≤ k → k < w.heap.size → w'.heap[k]? = w.heap[k]?) : DiskF base' w' v count data ws :=
  fun w2 h2 => h w2 (fun k k1 k2 => (h2 k (by omega) (by omega)).trans (hk k k1 k2))
theorem below_setR {base B : Nat} {w0 w : World} (i : Nat) (v : Value) (h : Below base w0 w) (hB : base ≤ B) : Below base w0 (w.setCell ⟨B, i, none⟩ v) := h.setCell (p := ⟨B, i, none⟩) hB v
theorem set_keep {w : World} {B i k : Nat} {v : Value} (h : k ≠ B) : (w.setCell ⟨B, i, none⟩ v).heap[k]? = w.heap[k]? := heap_setCell_other _ ⟨B, i, none⟩ k _ h
theorem alloc_keep {w : World} {o : Obj} {k : Nat} (h : k < w.heap.size) : (w.alloc o).heap[k]? = w.heap[k]? := (below_alloc w o).block k h
theorem cells3f {w : World} {g : Nat} {a b c : Value} {t : TypeId} (h : w.heap[g]? = some (.cells #[a, b, c] t (0, 0))) : (w.cell? ⟨g, 0, none⟩ = some a ∧ w.cell? ⟨g, 1, none⟩ = some b ∧ w.cell? ⟨g, 2, none⟩ = some c) ∧ w.frozen? ⟨g, 0, none⟩ = false ∧ w.frozen? ⟨g, 1, none⟩ = false ∧ w.frozen? ⟨g, 2, none⟩ = false :=
  ⟨three_cells h, by simp only [World.frozen?, h]; rfl, by simp only [World.frozen?, h]; rfl, by simp only [World.frozen?, h]; rfl⟩
/-- What turned answers. -/
structure TdP (w : World) (count : Int) (data : List Nat) (ws : Puts) (S : Int → Acts → Prop) (e : Ending) (w' : World) : Prop where
  ex : ∃ m A c0 q1 n1 m1 q2 n2 m2 E, S m A ∧ e = .returned (.tuple #[.agg #[.int .i64 c0, .slice q1 n1 m1, .slice q2 n2 m2], .int .i64 E]) ∧ Below w.heap.size w w' ∧
    ((m ≠ 0 ∧ E = m) ∨ (m = 0 ∧ E = resE (doAny count data ws A) ∧ DiskF w.heap.size w' (.agg #[.int .i64 c0, .slice q1 n1 m1, .slice q2 n2 m2]) (resC count (doAny count data ws A)) (resD (doAny count data ws A)) (resW (doAny count data ws A))))
set_option maxRecDepth 8000 in
set_option maxHeartbeats 4000000 in
theorem turned_any (v : Value) (count : Int) (data : List Nat) (ws : Puts) (lq : Option Addr) (ln lc : Nat) (l : List CV) (w : World) (hL : Laid w) (hd : DiskIn w v count data ws) (r : Option (DirV × Int)) (n : Int) (hm : MountIs count data ws r n)
    (hl : ChgIn w lq ln lc l) (hvs : ∀ y ∈ l, (y.val.size : Int) ≤ 9223372036854775000) :
    Calls Tryz.prog 9 #[v, .slice lq ln lc] w fun e w' => TdP w count data ws (TurnIs count data ws r n l) e w' := by
  obtain ⟨p, c, q, m, rfl, _⟩ := hd.parts
  obtain ⟨dl, hdl⟩ : ∃ k, data.length = k := ⟨_, rfl⟩
  obtain ⟨wl, hwl⟩ : ∃ k, ws.length = k := ⟨_, rfl⟩
  rw [hdl, hwl] at hd ⊢
  obtain ⟨W2, hW2⟩ : ∃ W2, (w.alloc (.cells #[.int .i64 count, .slice p dl c, .slice q wl m] 25)).alloc (.cells #[.int .i64 0, .slice none 0 0, .slice none 0 0] 25) = W2 := ⟨_, rfl⟩
  have hB2 : Below w.heap.size w W2 := by rw [← hW2]; exact below_bt (below_alloc _ _) (below_alloc _ _)
  have HX : Hid (∀ w', Below W2.heap.size W2 w' → w'.heap[w.heap.size]? = some (.cells #[.int .i64 count, .slice p dl c, .slice q wl m] 25 (0, 0)) ∧ w'.heap[w.heap.size + 1]? = some (.cells #[.int .i64 0, .slice none 0 0, .slice none 0 0] 25 (0, 0))) := by
    intro w' hb
    have h1 : W2.heap[w.heap.size]? = some (.cells #[.int .i64 count, .slice p dl c, .slice q wl m] 25 (0, 0)) := by
      rw [← hW2]
      exact ((below_alloc (w.alloc _) _).block _ (by simp)).trans (heap_alloc_new w _)
    have h2 : W2.heap[w.heap.size + 1]? = some (.cells #[.int .i64 0, .slice none 0 0, .slice none 0 0] 25 (0, 0)) := by
      rw [← hW2]
      have := heap_alloc_new (w.alloc (.cells #[.int .i64 count, .slice p dl c, .slice q wl m] 25)) (.cells #[.int .i64 0, .slice none 0 0, .slice none 0 0] 25)
      simpa using this
    exact ⟨(hb.block _ (lt_heap h1)).trans h1, (hb.block _ (lt_heap h2)).trans h2⟩
  have hT := Turn_any _ count data ws lq ln lc l W2 (hL.below hB2) (hd.below hB2) r n hm ⟨hl.lies.below hB2, hl.len, hl.cap, hl.fits, hl.keys⟩ hvs
  have HB2 : Hid (Below w.heap.size w W2) := hB2
  have HD : Hid (DiskIn w (.agg #[.int .i64 count, .slice p dl c, .slice q wl m]) count data ws) := hd
  have HSZ : Hid (W2.heap.size = w.heap.size + 2) := by show _ = _; rw [← hW2]; simp
  obtain ⟨⟨x0, x1, x2⟩, xf0, xf1, xf2⟩ := cells3f (HX.out W2 (Below.refl _ _)).1
  clear hd hL hm hl hvs hB2 hdl hwl
  go_enter Tryz.func9, Tryz.ntmps9
  go_upto_region 1 with fail
  (try rw [hW2])
  clear hW2
  go_wp2_with fail
  refine hT.mono ?_
  rintro e w3 ⟨mm, A, av, L, hS, rfl, hown, hLA, hb3⟩
  have HS : Hid (TurnIs count data ws r n l mm A) := hS
  obtain ⟨aq, am, rfl, _, _, _⟩ := hown.form
  have hlies := hown.lies
  have HB3 : Hid (Below w.heap.size w w3) := below_bt HB2.out hb3
  have HX3 : Hid _ := HX.out w3 hb3
  obtain ⟨⟨y0, y1, y2⟩, yf0, yf1, yf2⟩ := cells3f HX3.out.1
  obtain ⟨⟨z0, z1, z2⟩, zf0, zf1, zf2⟩ := cells3f HX3.out.2
  have hne : w.heap.size ≠ w.heap.size + 1 := by omega
  have hne2 : w.heap.size + 1 ≠ w.heap.size := by omega
  by_cases hm0 : mm = 0
  · subst hm0
    have hdo := do_all _ count data ws w3 (HD.out.below HB3.out) aq L.length am A (by rw [← hLA, List.length_map]) (by rw [← hLA]; exact hlies.2.1) (by rw [← hLA, List.length_map]; have := hlies.2.2; unfold maxLen at this; omega) _ rfl
    obtain ⟨R, hR⟩ : ∃ R, doAny count data ws A = R := ⟨_, rfl⟩
    have HR : Hid (doAny count data ws A = R) := hR
    rw [hR] at hdo
    have HL3 : Hid (w.heap.size + 1 < w3.heap.size) := by have := hb3.size; have := HSZ.out; show _ < _; omega
    clear hT hb3 hown hlies hLA hS hR x0 x1 x2 xf0 xf1 xf2
    go_wp2_with fail
    refine hdo.mono ?_
    rintro e w4 ⟨⟨v4, rfl, hF4⟩, hb4⟩
    have HB4 : Hid (Below w.heap.size w w4) := below_bt HB3.out hb4
    have hI4 := hF4.self
    obtain ⟨p4, c4, q4, m4, rfl, _⟩ := hI4.parts
    obtain ⟨d4, hd4⟩ : ∃ k, (resD R).length = k := ⟨_, rfl⟩
    obtain ⟨u4, hu4⟩ : ∃ k, (resW R).length = k := ⟨_, rfl⟩
    rw [hd4, hu4] at hF4 ⊢
    obtain ⟨E4, hE4⟩ : ∃ k, resE R = k := ⟨_, rfl⟩
    obtain ⟨C4, hC4⟩ : ∃ k, resC count R = k := ⟨_, rfl⟩
    have HE4 : Hid (resE R = E4 ∧ resC count R = C4) := ⟨hE4, hC4⟩
    rw [hE4, hC4]
    rw [hC4] at hF4
    have HF4 : Hid (DiskF w3.heap.size w4 (.agg #[.int .i64 C4, .slice p4 d4 c4, .slice q4 u4 m4]) C4 (resD R) (resW R) ∧ w3.heap.size ≤ w4.heap.size) := ⟨hF4, hb4.size⟩
    have HX4 : Hid (w4.heap[w.heap.size + 1]? = some (.cells #[.int .i64 0, .slice none 0 0, .slice none 0 0] 25 (0, 0))) := (hb4.block _ (lt_heap HX3.out.2)).trans HX3.out.2
    have HX5 : Hid ((w4.alloc (.cells #[.int .i64 C4, .slice p4 d4 c4, .slice q4 u4 m4] 25)).heap[w.heap.size + 1]? = some (.cells #[.int .i64 0, .slice none 0 0, .slice none 0 0] 25 (0, 0))) := ((below_alloc w4 _).block _ (lt_heap HX4.out)).trans HX4.out
    obtain ⟨⟨s0, s1, s2⟩, sf0, sf1, sf2⟩ := cells3f HX5.out
    clear hdo hF4 hb4 hI4 hd4 hu4 hE4 hC4 y0 y1 y2 yf0 yf1 yf2 z0 z1 z2 zf0 zf1 zf2
    go_wp2
    (try simp only [Exit.inBlock, Exit.then])
    refine bodyPost_ret (v := .tuple #[.agg #[.int .i64 C4, .slice p4 d4 c4, .slice q4 u4 m4], .int .i64 E4]) ?_ rfl ?_
    · rw [results_cell_tmp rfl]
      go_simp
    · refine ⟨⟨0, A, _, _, _, _, _, _, _, _, HS.out, rfl, ?_, .inr ⟨rfl, by rw [HR.out, HE4.out.1], ?_⟩⟩⟩
      · repeat' first
          | exact below_bt HB4.out (below_alloc _ _)
          | refine below_setR _ _ ?_ (Nat.le_succ w.heap.size)
      · rw [HR.out, HE4.out.2]
        refine fun w5 h5 => HF4.out.1 _ (fun k k1 k2 => (h5 k (by have := HL3.out; omega) (by simp only [World.size_setCell, World.size_alloc]; omega)).trans ?_)
        have e1 : k ≠ w.heap.size + 1 := by have := HL3.out; omega
        repeat' first
          | refine (set_keep e1).trans ?_
          | exact alloc_keep k2
  · have hmb : (mm == 0) = false := by simpa using hm0
    have HM : Hid (mm ≠ 0) := hm0
    clear hT hb3 hown hlies hLA hS x0 x1 x2 xf0 xf1 xf2
    go_wp2
    (try simp only [Exit.inBlock, Exit.then])
    refine bodyPost_ret (v := .tuple #[.agg #[.int .i64 count, .slice p dl c, .slice q wl m], .int .i64 mm]) ?_ rfl ?_
    · rw [results_cell_tmp rfl]
      go_simp
    · refine ⟨⟨mm, A, _, _, _, _, _, _, _, _, HS.out, rfl, ?_, .inl ⟨HM.out, rfl⟩⟩⟩
      repeat' first
        | exact HB3.out
        | refine below_setR _ _ ?_ (Nat.le_succ w.heap.size)
end Go.Proofs.YtkgmhmhphgaclabGreatDoor
