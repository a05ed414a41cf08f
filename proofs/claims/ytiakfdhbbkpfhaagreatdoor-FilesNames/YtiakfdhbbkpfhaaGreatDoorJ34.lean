/-
  What a turn comes to, whole and broken off, for the statements; no program.
-/
import Derived.Test.YtiakfdhbbkpfhaaGreatDoorJ33
import Derived.Test.YtiakfdhbbkpfhaaGreatDoorJ31
namespace Go.Proofs.YtiakfdhbbkpfhaaGreatDoor
set_option maxRecDepth 8000
open Go.RowKit Go.WideShapes

/-- What Do comes to, on whatever disk. -/
noncomputable def doAny (count : Int) (data : List Nat) (ws : Puts) (l : Acts) : Except Int (List Nat × Puts) := if errC count data ws = 0 then doN count (data, ws) l else .error 20
theorem doAny_ok {count : Int} {data : List Nat} {ws : Puts} (l : Acts) (h : Okay count data ws) : doAny count data ws l = doN count (data, ws) l := by simp [doAny, errC_ok h]
theorem doAny_bad {count : Int} {data : List Nat} {ws : Puts} (l : Acts) (h : ¬ Okay count data ws) : doAny count data ws l = .error 20 := by simp [doAny, errC_bad h]
def resE : Except Int (List Nat × Puts) → Int
  | .ok _ => 0
  | .error c => c
def resC (count : Int) : Except Int (List Nat × Puts) → Int
  | .ok _ => count
  | .error _ => 0
def resD : Except Int (List Nat × Puts) → List Nat
  | .ok s => s.1
  | .error _ => []
def resW : Except Int (List Nat × Puts) → Puts
  | .ok s => s.2
  | .error _ => []
theorem stepA_err {count : Int} {s : List Nat × Puts} {a : Bool × Int × List Nat} {c : Int} (h : stepA count s a = .error c) : c ≠ 0 := by
  unfold stepA at h
  split at h
  · cases h
  · split at h
    · cases h; decide
    · split at h
      · cases h; decide
      · split at h
        · cases h; decide
        · cases h
theorem doN_err {count : Int} (l : Acts) : ∀ {s : List Nat × Puts} {c : Int}, doN count s l = .error c → c ≠ 0 := by
  induction l with
  | nil => intro s c h; cases h
  | cons a l ih =>
    intro s c h
    simp only [doN] at h
    cases e : stepA count s a with
    | ok t => rw [e] at h; exact ih h
    | error d => rw [e] at h; cases h; exact stepA_err e
theorem doAny_err {count : Int} {data : List Nat} {ws : Puts} {l : Acts} {c : Int} (h : doAny count data ws l = .error c) : c ≠ 0 := by
  by_cases ho : Okay count data ws
  · rw [doAny_ok l ho] at h; exact doN_err l h
  · rw [doAny_bad l ho] at h; cases h; decide
theorem doAny_okay {count : Int} {data : List Nat} {ws : Puts} {l : Acts} {s : List Nat × Puts} (h : doAny count data ws l = .ok s) : Okay count s.1 s.2 := by
  by_cases ho : Okay count data ws
  · rw [doAny_ok l ho] at h; exact okay_do l (s := (data, ws)) ho h
  · rw [doAny_bad l ho] at h; cases h
theorem zero_in (w : World) : DiskIn w zeroDisk 0 [] [] :=
  ⟨⟨_, none, 0, rfl, ⟨none, 0, rfl, ⟨fun h => absurd h (by simp), by simp⟩, by simp, by unfold maxLen; omega, fun _ => rfl⟩, fun h => absurd h (by simp), by simp, by unfold maxLen; omega, fun _ => rfl⟩, by decide, by simp⟩
/-- A disk that reads so wherever the blocks from base on, that are there, are as they are. -/
def DiskF (base : Nat) (w : World) (v : Value) (count : Int) (data : List Nat) (ws : Puts) : Prop := ∀ w2 : World, (∀ k : Nat, base ≤ k → k < w.heap.size → w2.heap[k]? = w.heap[k]?) → DiskIn w2 v count data ws
theorem DiskF.self {base : Nat} {w : World} {v : Value} {count : Int} {data : List Nat} {ws : Puts} (h : DiskF base w v count data ws) : DiskIn w v count data ws := h w (fun _ _ _ => rfl)
theorem DiskF.below {base : Nat} {w w' : World} {v : Value} {count : Int} {data : List Nat} {ws : Puts} (h : DiskF base w v count data ws) (hb : Below w.heap.size w w') : DiskIn w' v count data ws := h w' (fun k _ hk => hb.block k hk)
theorem DiskF.set3 {base B : Nat} {w : World} {v : Value} {count : Int} {data : List Nat} {ws : Puts} (h : DiskF base w v count data ws) (hB : B < base) (a b c : Value) : DiskIn (((w.setCell ⟨B, 0, none⟩ a).setCell ⟨B, 1, none⟩ b).setCell ⟨B, 2, none⟩ c) v count data ws :=
  h _ (fun k hk _ => set3_other w B k a b c (by omega))
theorem PutsOwn.keepB {w w' : World} {base : Nat} {v : Value} {ws : Puts} {gs : List Nat} (h : PutsOwn w base v ws gs) (hk : ∀ k, base ≤ k → k < w.heap.size → w'.heap[k]? = w.heap[k]?) : PutsOwn w' base v ws gs :=
  h.keep (fun g _ hv e => hk g (h.row.lt g hv).1 (lt_heap e)) (fun i hi => hk _ (h.rows i hi).1 (lt_heap (h.rows i hi).2))
theorem DiskNew.fresh {w : World} {base : Nat} {v : Value} {count : Int} {data : List Nat} {ws : Puts} (h : DiskNew w base v count data ws) (ho : Okay count data ws) : DiskF base w v count data ws := by
  intro w2 hk
  obtain ⟨gd, q, m, gs, h1, h2, h3, h4, h5⟩ := h.lies
  have : DiskNew w2 base v count data ws := ⟨⟨gd, q, m, gs, h1, h2, (hk gd h2 (lt_heap h3)).trans h3, h4.keepB hk, h5⟩, h.bytes⟩
  exact this.toIn ho
theorem do_all (v : Value) (count : Int) (data : List Nat) (ws : Puts) (w : World) (hd : DiskIn w v count data ws) (q : Option Addr) (n m : Nat) (l : Acts) (hn : n = l.length) (hl : ActsIn w q l) (hll : l.length ≤ 9223372036854775807) (r : Except Int (List Nat × Puts)) (hr : doAny count data ws l = r) :
    Calls Tryz.prog 15 #[v, .slice q n m] w fun e w' => (∃ v', e = .returned (.tuple #[v', .int .i64 (resE r)]) ∧ DiskF w.heap.size w' v' (resC count r) (resD r) (resW r)) ∧ Below w.heap.size w w' := by
  subst hn
  subst hr
  by_cases ho : Okay count data ws
  · rw [doAny_ok l ho]
    refine (do_ok v count data ws w hd ho q m l hl hll).mono ?_
    rintro e w' ⟨hp, hb⟩
    refine ⟨?_, hb⟩
    generalize hr : doN count (data, ws) l = r at *
    cases hp with
    | err c => exact ⟨_, rfl, fun w2 _ => zero_in w2⟩
    | ok d2 w2 v2 _ hnew => exact ⟨_, rfl, hnew.fresh (okay_do l (s := (data, ws)) (s' := (d2, w2)) ho hr)⟩
  · rw [doAny_bad l ho]
    refine (do_bad v _ count data ws w hd ho).mono ?_
    rintro e w' ⟨rfl, hb⟩
    exact ⟨⟨_, rfl, fun w2 _ => zero_in w2⟩, hb⟩
theorem doAny_fail {count : Int} {data : List Nat} {ws : Puts} {l : Acts} {k : Nat} {c : Int} (h : doAny count data ws (l.take k) = .error c) : doAny count data ws l = .error c := by
  by_cases ho : Okay count data ws
  · rw [doAny_ok _ ho] at h ⊢; exact doN_fail h
  · rw [doAny_bad _ ho] at h ⊢; exact h
theorem doAny_cut {count : Int} {data : List Nat} {ws : Puts} {l : Acts} {k : Nat} {s : List Nat × Puts} (h : doAny count data ws (l.take k) = .ok s) : doAny count s.1 s.2 (l.drop k) = doAny count data ws l := by
  have hs := doAny_okay h
  by_cases ho : Okay count data ws
  · rw [doAny_ok _ ho] at h ⊢
    rw [doAny_ok _ hs]
    conv => rhs; rw [← List.take_append_drop k l, doN_app, h]
  · rw [doAny_bad _ ho] at h; cases h
theorem acts_take {w : World} {q : Option Addr} {l : Acts} (h : ActsIn w q l) (k : Nat) : ActsIn w q (l.take k) := by
  intro hp
  simp only [List.length_take] at hp
  obtain ⟨b, o, rfl, hc⟩ := h (by omega)
  refine ⟨b, o, rfl, fun i hi => ?_⟩
  simp only [List.length_take] at hi
  have e : (l.take k).getD i (false, 0, []) = l.getD i (false, 0, []) := by simp [List.getD, show i < k from by omega]
  rw [e]
  exact hc i (by omega)
theorem acts_drop {w : World} {b o : Nat} {l : Acts} (h : ActsIn w (some ⟨b, o, none⟩) l) (k : Nat) (A : Option Addr) (hA : k < l.length → A = some ⟨b, o + k * 3, none⟩) : ActsIn w A (l.drop k) := by
  intro hp
  simp only [List.length_drop] at hp
  obtain ⟨b', o', e, hc⟩ := h (by omega)
  simp only [Option.some.injEq, Addr.mk.injEq, and_true] at e
  obtain ⟨rfl, rfl⟩ := e
  refine ⟨b, o + k * 3, hA (by omega), fun i hi => ?_⟩
  simp only [List.length_drop] at hi
  have e : (l.drop k).getD i (false, 0, []) = l.getD (k + i) (false, 0, []) := by simp [List.getD]
  rw [e]
  have := hc (k + i) (by omega)
  rw [show o + k * 3 + i * 3 = o + (k + i) * 3 from by omega, show o + k * 3 + (i * 3 + 1) = o + ((k + i) * 3 + 1) from by omega, show o + k * 3 + (i * 3 + 2) = o + ((k + i) * 3 + 2) from by omega]
  exact this
end Go.Proofs.YtiakfdhbbkpfhaaGreatDoor
namespace Go.Proofs.YtiakfdhbbkpfhaaGreatDoor
open Go.RowKit Go.WideShapes Rm

theorem DiskF.to {base base' : Nat} {w w' : World} {v : Value} {count : Int} {data : List Nat} {ws : Puts} (h : DiskF base w v count data ws) (hb : base' ≤ base) (hs : w'.heap.size = w.heap.size) (hk : ∀ k : Nat, base ≤ k → k < w.heap.size → w'.heap[k]? = w.heap[k]?) : DiskF base' w' v count data ws :=
  fun w2 h2 => h w2 (fun k k1 k2 => (h2 k (by omega) (by omega)).trans (hk k k1 k2))
theorem below_setR {base B : Nat} {w0 w : World} (i : Nat) (v : Value) (h : Below base w0 w) (hB : base ≤ B) : Below base w0 (w.setCell ⟨B, i, none⟩ v) := h.setCell (p := ⟨B, i, none⟩) hB v
theorem set_keep {w : World} {B i k : Nat} {v : Value} (h : k ≠ B) : (w.setCell ⟨B, i, none⟩ v).heap[k]? = w.heap[k]? := heap_setCell_other _ ⟨B, i, none⟩ k _ h
theorem alloc_keep {w : World} {o : Obj} {k : Nat} (h : k < w.heap.size) : (w.alloc o).heap[k]? = w.heap[k]? := (below_alloc w o).block k h
theorem cells3f {w : World} {g : Nat} {a b c : Value} {t : TypeId} (h : w.heap[g]? = some (.cells #[a, b, c] t (0, 0))) : (w.cell? ⟨g, 0, none⟩ = some a ∧ w.cell? ⟨g, 1, none⟩ = some b ∧ w.cell? ⟨g, 2, none⟩ = some c) ∧ w.frozen? ⟨g, 0, none⟩ = false ∧ w.frozen? ⟨g, 1, none⟩ = false ∧ w.frozen? ⟨g, 2, none⟩ = false :=
  ⟨three_cells h, by simp only [World.frozen?, h]; rfl, by simp only [World.frozen?, h]; rfl, by simp only [World.frozen?, h]; rfl⟩
/-- What turned answers. -/
structure TdP (w : World) (count : Int) (data : List Nat) (ws : Puts) (S : Int → Acts → Prop) (e : Ending) (w' : World) : Prop where
  ex : ∃ m A c0 q1 n1 m1 q2 n2 m2 E, S m A ∧ e = .returned (.tuple #[.agg #[.int .i64 c0, .slice q1 n1 m1, .slice q2 n2 m2], .int .i64 E]) ∧ Below w.heap.size w w' ∧
    ((m ≠ 0 ∧ E = m) ∨ (m = 0 ∧ E = resE (doAny count data ws A) ∧ DiskF w.heap.size w' (.agg #[.int .i64 c0, .slice q1 n1 m1, .slice q2 n2 m2]) (resC count (doAny count data ws A)) (resD (doAny count data ws A)) (resW (doAny count data ws A))))
set_option maxRecDepth 8000 in
set_option maxHeartbeats 4000000 in
theorem turned_any (v : Value) (count : Int) (data : List Nat) (ws : Puts) (lq : Option Addr) (ln lc : Nat) (l : List CV) (w : World) (hL : Laid w) (hd : DiskIn w v count data ws) (r : Option (DirV × Int)) (n : Int) (hm : MountIs count data ws r n)
    (hl : ChgIn w lq ln lc l) (hvs : ∀ y ∈ l, (y.val.size : Int) ≤ 9223372036854775000) :
    Calls Tryz.prog 16 #[v, .slice lq ln lc] w fun e w' => TdP w count data ws (TurnIs count data ws r n l) e w' := by
  obtain ⟨p, c, q, m, rfl, _⟩ := hd.parts
  obtain ⟨dl, hdl⟩ : ∃ k, data.length = k := ⟨_, rfl⟩
  obtain ⟨wl, hwl⟩ : ∃ k, ws.length = k := ⟨_, rfl⟩
  rw [hdl, hwl] at hd ⊢
  obtain ⟨W2, hW2⟩ : ∃ W2, (w.alloc (.cells #[.int .i64 count, .slice p dl c, .slice q wl m] 25)).alloc (.cells #[.int .i64 0, .slice none 0 0, .slice none 0 0] 25) = W2 := ⟨_, rfl⟩
  have hB2 : Below w.heap.size w W2 := by rw [← hW2]; exact below_bt (below_alloc _ _) (below_alloc _ _)
  have HX : Hid (∀ w', Below W2.heap.size W2 w' → w'.heap[w.heap.size]? = some (.cells #[.int .i64 count, .slice p dl c, .slice q wl m] 25 (0, 0)) ∧ w'.heap[w.heap.size + 1]? = some (.cells #[.int .i64 0, .slice none 0 0, .slice none 0 0] 25 (0, 0))) := by
    intro w' hb
    have h1 : W2.heap[w.heap.size]? = some (.cells #[.int .i64 count, .slice p dl c, .slice q wl m] 25 (0, 0)) := by
      rw [← hW2]
      exact ((below_alloc (w.alloc _) _).block _ (by simp)).trans (heap_alloc_new w _)
    have h2 : W2.heap[w.heap.size + 1]? = some (.cells #[.int .i64 0, .slice none 0 0, .slice none 0 0] 25 (0, 0)) := by
      rw [← hW2]
      have := heap_alloc_new (w.alloc (.cells #[.int .i64 count, .slice p dl c, .slice q wl m] 25)) (.cells #[.int .i64 0, .slice none 0 0, .slice none 0 0] 25)
      simpa using this
    exact ⟨(hb.block _ (lt_heap h1)).trans h1, (hb.block _ (lt_heap h2)).trans h2⟩
  have hT := Turn_any _ count data ws lq ln lc l W2 (hL.below hB2) (hd.below hB2) r n hm ⟨hl.lies.below hB2, hl.len, hl.cap, hl.fits, hl.keys⟩ hvs
  have HB2 : Hid (Below w.heap.size w W2) := hB2
  have HD : Hid (DiskIn w (.agg #[.int .i64 count, .slice p dl c, .slice q wl m]) count data ws) := hd
  have HSZ : Hid (W2.heap.size = w.heap.size + 2) := by show _ = _; rw [← hW2]; simp
  obtain ⟨⟨x0, x1, x2⟩, xf0, xf1, xf2⟩ := cells3f (HX.out W2 (Below.refl _ _)).1
  clear hd hL hm hl hvs hB2 hdl hwl
  go_enter Tryz.func16, Tryz.ntmps16
  go_upto_region 1 with fail
  (try rw [hW2])
  clear hW2
  go_wp2_with fail
  refine hT.mono ?_
  rintro e w3 ⟨mm, A, av, L, hS, rfl, hown, hLA, hb3⟩
  have HS : Hid (TurnIs count data ws r n l mm A) := hS
  obtain ⟨aq, am, rfl, _, _, _⟩ := hown.form
  have hlies := hown.lies
  have HB3 : Hid (Below w.heap.size w w3) := below_bt HB2.out hb3
  have HX3 : Hid _ := HX.out w3 hb3
  obtain ⟨⟨y0, y1, y2⟩, yf0, yf1, yf2⟩ := cells3f HX3.out.1
  obtain ⟨⟨z0, z1, z2⟩, zf0, zf1, zf2⟩ := cells3f HX3.out.2
  have hne : w.heap.size ≠ w.heap.size + 1 := by omega
  have hne2 : w.heap.size + 1 ≠ w.heap.size := by omega
  by_cases hm0 : mm = 0
  · subst hm0
    have hdo := do_all _ count data ws w3 (HD.out.below HB3.out) aq L.length am A (by rw [← hLA, List.length_map]) (by rw [← hLA]; exact hlies.2.1) (by rw [← hLA, List.length_map]; have := hlies.2.2; unfold maxLen at this; omega) _ rfl
    obtain ⟨R, hR⟩ : ∃ R, doAny count data ws A = R := ⟨_, rfl⟩
    have HR : Hid (doAny count data ws A = R) := hR
    rw [hR] at hdo
    have HL3 : Hid (w.heap.size + 1 < w3.heap.size) := by have := hb3.size; have := HSZ.out; show _ < _; omega
    clear hT hb3 hown hlies hLA hS hR x0 x1 x2 xf0 xf1 xf2
    go_wp2_with fail
    refine hdo.mono ?_
    rintro e w4 ⟨⟨v4, rfl, hF4⟩, hb4⟩
    have HB4 : Hid (Below w.heap.size w w4) := below_bt HB3.out hb4
    have hI4 := hF4.self
    obtain ⟨p4, c4, q4, m4, rfl, _⟩ := hI4.parts
    obtain ⟨d4, hd4⟩ : ∃ k, (resD R).length = k := ⟨_, rfl⟩
    obtain ⟨u4, hu4⟩ : ∃ k, (resW R).length = k := ⟨_, rfl⟩
    rw [hd4, hu4] at hF4 ⊢
    obtain ⟨E4, hE4⟩ : ∃ k, resE R = k := ⟨_, rfl⟩
    obtain ⟨C4, hC4⟩ : ∃ k, resC count R = k := ⟨_, rfl⟩
    have HE4 : Hid (resE R = E4 ∧ resC count R = C4) := ⟨hE4, hC4⟩
    rw [hE4, hC4]
    rw [hC4] at hF4
    have HF4 : Hid (DiskF w3.heap.size w4 (.agg #[.int .i64 C4, .slice p4 d4 c4, .slice q4 u4 m4]) C4 (resD R) (resW R) ∧ w3.heap.size ≤ w4.heap.size) := ⟨hF4, hb4.size⟩
    have HX4 : Hid (w4.heap[w.heap.size + 1]? = some (.cells #[.int .i64 0, .slice none 0 0, .slice none 0 0] 25 (0, 0))) := (hb4.block _ (lt_heap HX3.out.2)).trans HX3.out.2
    have HX5 : Hid ((w4.alloc (.cells #[.int .i64 C4, .slice p4 d4 c4, .slice q4 u4 m4] 25)).heap[w.heap.size + 1]? = some (.cells #[.int .i64 0, .slice none 0 0, .slice none 0 0] 25 (0, 0))) := ((below_alloc w4 _).block _ (lt_heap HX4.out)).trans HX4.out
    obtain ⟨⟨s0, s1, s2⟩, sf0, sf1, sf2⟩ := cells3f HX5.out
    clear hdo hF4 hb4 hI4 hd4 hu4 hE4 hC4 y0 y1 y2 yf0 yf1 yf2 z0 z1 z2 zf0 zf1 zf2
    go_wp2
    (try simp only [Exit.inBlock, Exit.then])
    refine bodyPost_ret (v := .tuple #[.agg #[.int .i64 C4, .slice p4 d4 c4, .slice q4 u4 m4], .int .i64 E4]) ?_ rfl ?_
    · rw [results_cell_tmp rfl]
      go_simp
    · refine ⟨⟨0, A, _, _, _, _, _, _, _, _, HS.out, rfl, ?_, .inr ⟨rfl, by rw [HR.out, HE4.out.1], ?_⟩⟩⟩
      · repeat' first
          | exact below_bt HB4.out (below_alloc _ _)
          | refine below_setR _ _ ?_ (Nat.le_succ w.heap.size)
      · rw [HR.out, HE4.out.2]
        refine fun w5 h5 => HF4.out.1 _ (fun k k1 k2 => (h5 k (by have := HL3.out; omega) (by simp only [World.size_setCell, World.size_alloc]; omega)).trans ?_)
        have e1 : k ≠ w.heap.size + 1 := by have := HL3.out; omega
        repeat' first
          | refine (set_keep e1).trans ?_
          | exact alloc_keep k2
  · have hmb : (mm == 0) = false := by simpa using hm0
    have HM : Hid (mm ≠ 0) := hm0
    clear hT hb3 hown hlies hLA hS x0 x1 x2 xf0 xf1 xf2
    go_wp2
    (try simp only [Exit.inBlock, Exit.then])
    refine bodyPost_ret (v := .tuple #[.agg #[.int .i64 count, .slice p dl c, .slice q wl m], .int .i64 mm]) ?_ rfl ?_
    · rw [results_cell_tmp rfl]
      go_simp
    · refine ⟨⟨mm, A, _, _, _, _, _, _, _, _, HS.out, rfl, ?_, .inl ⟨HM.out, rfl⟩⟩⟩
      repeat' first
        | exact HB3.out
        | refine below_setR _ _ ?_ (Nat.le_succ w.heap.size)
end Go.Proofs.YtiakfdhbbkpfhaaGreatDoor
namespace Go.Proofs.YtiakfdhbbkpfhaaGreatDoor
open Go.RowKit Go.WideShapes Rm

theorem ChgIn.below {w w' : World} {lq : Option Addr} {ln lc : Nat} {l : List CV} (h : ChgIn w lq ln lc l) (hb : Below w.heap.size w w') : ChgIn w' lq ln lc l := ⟨h.lies.below hb, h.len, h.cap, h.fits, h.keys⟩
theorem secs_le {count : Int} (hz : 80 ≤ count ∧ count ≤ 4096) {l : Pcs} (h : Rm.Good count l) : ((secs l).length : Int) ≤ count := by
  have h1 := secs_len_good h (f := 0) (k := count.toNat) (fun p hp => by have := h.wn p hp; unfold Wn at this; omega) (by omega)
  have h2 := meant_all_len (cov l) 0 count.toNat
  omega
theorem turnA_len (F : Acts) (other : Nat) (y : DirV) : (turnA F other y).length ≤ F.length + 10 := by
  unfold turnA slotA
  rw [List.length_append, List.length_append, List.length_map, List.length_range]
  split <;> simp
theorem turn_len {count : Int} {data : List Nat} {ws : Puts} {l : List CV} {x y : DirV} {at_ other : Nat} {fs : List FileV} {A : Acts} (h : TurnOk count data ws l x y at_ other fs A) : (A.length : Int) ≤ count + 10 := by
  have hz : 80 ≤ count ∧ count ≤ 4096 := ⟨by have := h.hc; omega, h.ho.hi⟩
  have hgx := (errK_zero h.hsx.2).2.2
  obtain ⟨p1, _, _⟩ := place_facts hz hgx h.hpl
  have h1 := secs_le hz p1
  have h2 := filesA_le fs ((puttingN (l.map toV)).map Prod.snd)
  have h3 := turnA_len (filesA fs ((puttingN (l.map toV)).map Prod.snd)) other y
  rw [secs_append, List.length_append] at h1
  rw [h.hA]
  omega
theorem count_few {count : Int} {data : List Nat} {ws : Puts} (ho : Okay count data ws) (h : ¬ largeL count data ws) : count ≤ 312 ∧ ws.length ≤ 300 := by
  unfold largeL at h
  have h1 := ho.lo
  have h2 := ho.hi
  have h3 := ho.len
  omega
/-- A turn that can be done is done. -/
theorem turn_doneM {w : World} {v : Value} {count : Int} {data : List Nat} {ws : Puts} {r : Option (DirV × Int)} {n : Int} {l : List CV} {A : Acts} (hd : DiskIn w v count data ws) (hm : MountIs count data ws r n) (h : TurnIs count data ws r n l 0 A) (hlg : ¬ largeL count data ws) :
    ∃ D y s, doAny count data ws A = .ok (D, []) ∧ Okay count D [] ∧ MountIs count D [] (some (y, s)) 0 ∧ HasAll D [] (some (y, s)) 0 (map2L l (startC data ws r n)) := by
  obtain ⟨x, y, a, o, fs, rfl, hok⟩ := turnIs_ok hm h
  have h1 := turn_len hok
  have h2 := count_few hok.ho hlg
  obtain ⟨D, e1, e2, e3, e4⟩ := turn_result hok (by omega)
  exact ⟨D, y, _, by rw [doAny_ok _ hok.ho]; exact e1, e2, e3, hasAll_want hd hm e3 e4⟩
theorem mount_of {count : Int} {D : List Nat} {x z : DirV} {o : Option DirV} {at_ other : Nat} {s : Int} (hao : (at_ = 0 ∧ other = 8) ∨ (at_ = 8 ∧ other = 0)) (ho : Okay count D []) (hc : 96 ≤ count) (h1 : SlotR ltS count (slotK D [] at_ 8) (some x)) (h2 : SlotR ltS count (slotK D [] other 8) o) (h3 : mountS at_ (some x) o = some (z, s)) : MountIs count D [] (some (z, s)) 0 := by
  refine .inr (.inr ⟨ho, hc, ?_⟩)
  rcases hao with ⟨rfl, rfl⟩ | ⟨rfl, rfl⟩
  · exact ⟨some x, o, h1, h2, h3.symm, by simp⟩
  · exact ⟨o, some x, h2, h1, h3.symm, by simp⟩
theorem now_none (data : List Nat) (k : Nat) : nowN data [] ((k : Nat) : Int) = secN data k := by simp [nowN, nowK]
/-- A turn broken off by a loss of power. -/
theorem crash_result {count : Int} {data D : List Nat} {W : Puts} {l : List CV} {x y : DirV} {at_ other : Nat} {fs : List FileV} {A : Acts} (h : TurnOk count data [] l x y at_ other fs A) (n : Nat) (hn : n ≤ A.length) (keep : List Bool) (e : doN count (data, []) (A.take n) = .ok (D, W)) :
    ∃ z s, MountIs count (crashN D W keep) [] (some (z, s)) 0 ∧ (filesD (crashN D W keep) [] z = wantN ltB (filesD data [] x) (l.map toV) ∨ (n < A.length ∧ filesD (crashN D W keep) [] z = filesD data [] x)) := by
  obtain ⟨o, hso, hmt⟩ := h.hso
  have hok : Okay count D W := okay_do _ (s := (data, [])) (s' := (D, W)) h.ho e
  have hA := h.hA
  subst hA
  obtain ⟨o', z, s, c1, c2, c3, c4⟩ := crash_holds ltB_tot ltB_irr ltB_tr n keep h.hao h.ho h.hc h.hsx hso hmt h.hy h.hxy (fun i hi => by have := h.hg i hi; rw [now_none] at this; exact this) h.hd h.hpl h.hmem hn e
  refine ⟨z, s, mount_of h.hao (okay_crashed hok keep) h.hc c1 c2 c3, ?_⟩
  rcases c4 with c4 | ⟨c4, c5⟩
  · exact .inl c4
  · exact .inr ⟨c4, by rw [c5, wantN_nil]⟩
theorem doAny_part {count : Int} {data : List Nat} {ws : Puts} {A : Acts} {s : List Nat × Puts} (h : doAny count data ws A = .ok s) (n : Nat) : ∃ t, doAny count data ws (A.take n) = .ok t := by
  cases e : doAny count data ws (A.take n) with
  | ok t => exact ⟨t, rfl⟩
  | error c => rw [doAny_fail e] at h; cases h
/-- A turn broken off: what it has is what was there, or what is to be there. -/
theorem turn_crashM {w : World} {v : Value} {count : Int} {data : List Nat} {r : Option (DirV × Int)} {n : Int} {l : List CV} {A : Acts} (hd : DiskIn w v count data []) (hm : MountIs count data [] r n) (h : TurnIs count data [] r n l 0 A) (hlg : count ≤ 312) (k : Nat) (hk : k ≤ A.length) (keep : List Bool) :
    ∃ D W z s, doAny count data [] (A.take k) = .ok (D, W) ∧ Okay count D W ∧ MountIs count (crashN D W keep) [] (some (z, s)) 0 ∧ (HasAll (crashN D W keep) [] (some (z, s)) 0 (map2L l (startC data [] r n)) ∨ (k < A.length ∧ HasAll (crashN D W keep) [] (some (z, s)) 0 (map2L [] (startC data [] r n)))) := by
  obtain ⟨x, y, a, o, fs, rfl, hok⟩ := turnIs_ok hm h
  have h1 := turn_len hok
  obtain ⟨D0, e1, _⟩ := turn_result hok (by simp; omega)
  obtain ⟨⟨D, W⟩, e⟩ := doAny_part (by rw [doAny_ok _ hok.ho]; exact e1) k
  have e' := e
  rw [doAny_ok _ hok.ho] at e'
  obtain ⟨z, s, hmz, hh⟩ := crash_result hok k hk keep e'
  refine ⟨D, W, z, s, e, okay_do _ (s := (data, [])) (s' := (D, W)) hok.ho e', hmz, ?_⟩
  rcases hh with hh | ⟨hh, h2⟩
  · exact .inl (hasAll_want hd hm hmz hh)
  · exact .inr ⟨hh, hasAll_want hd hm hmz (by rw [h2]; rfl)⟩
theorem slotR_only {count : Int} {xs : List Nat} : ∀ {a b : Option DirV}, SlotR ltS count xs a → SlotR ltS count xs b → a = b
  | none, none, _, _ => rfl
  | none, some x, ha, hb => absurd hb.2 (ha x hb.1)
  | some x, none, ha, hb => absurd ha.2 (hb x ha.1)
  | some x, some y, ha, hb => by rw [isDir_only ha.1 hb.1]
theorem mountIs_only {count : Int} {data : List Nat} {ws : Puts} {r r' : Option (DirV × Int)} {n n' : Int} (h : MountIs count data ws r n) (h' : MountIs count data ws r' n') : r = r' ∧ n = n' := by
  rcases h with ⟨a, rfl, rfl⟩ | ⟨a, b, rfl, rfl⟩ | ⟨a, b, x, y, hx, hy, rfl, rfl⟩
  · rcases h' with ⟨_, rfl, rfl⟩ | ⟨a', _⟩ | ⟨a', _⟩
    · exact ⟨rfl, rfl⟩
    · exact absurd a' a
    · exact absurd a' a
  · rcases h' with ⟨a', _⟩ | ⟨_, _, rfl, rfl⟩ | ⟨_, b', _⟩
    · exact absurd a a'
    · exact ⟨rfl, rfl⟩
    · omega
  · rcases h' with ⟨a', _⟩ | ⟨_, b', _⟩ | ⟨_, _, x', y', hx', hy', rfl, rfl⟩
    · exact absurd a a'
    · omega
    · rw [slotR_only hx hx', slotR_only hy hy']
      exact ⟨rfl, rfl⟩
/-- Another turn behind a turn, broken off. -/
theorem turn_twiceM {w w2 : World} {v v2 : Value} {count : Int} {data D : List Nat} {r : Option (DirV × Int)} {n : Int} {l m : List CV} {A A2 : Acts} (hd : DiskIn w v count data []) (hm : MountIs count data [] r n) (h : TurnIs count data [] r n l 0 A) (hlg : count ≤ 312) (he : doAny count data [] A = .ok (D, [])) {r2 : Option (DirV × Int)} {n2 : Int} (hm2 : MountIs count D [] r2 n2) (hd2 : DiskIn w2 v2 count D []) (h2 : TurnIs count D [] r2 n2 m 0 A2) (k : Nat) (hk : k ≤ A2.length) (keep : List Bool) :
    ∃ D2 W2 z s, doAny count D [] (A2.take k) = .ok (D2, W2) ∧ Okay count D2 W2 ∧ MountIs count (crashN D2 W2 keep) [] (some (z, s)) 0 ∧ (HasAll (crashN D2 W2 keep) [] (some (z, s)) 0 (map2L m (startC D [] r2 n2)) ∨ (k < A2.length ∧ HasAll (crashN D2 W2 keep) [] (some (z, s)) 0 (map2L l (startC data [] r n)))) := by
  obtain ⟨x, y, a, o, fs, rfl, hok⟩ := turnIs_ok hm h
  have h1 := turn_len hok
  obtain ⟨D0, e1, _, e3, e4⟩ := turn_result hok (by simp; omega)
  rw [← doAny_ok _ hok.ho, he] at e1
  simp only [Except.ok.injEq, Prod.mk.injEq, and_true] at e1
  subst e1
  obtain ⟨x2, y2, a2, o2, fs2, rfl, hok2⟩ := turnIs_ok hm2 h2
  obtain ⟨hr, _⟩ := mountIs_only hm2 e3
  simp only [Option.some.injEq, Prod.mk.injEq] at hr
  obtain ⟨rfl, _⟩ := hr
  have h5 := turn_len hok2
  obtain ⟨D9, f1, _⟩ := turn_result hok2 (by simp; omega)
  obtain ⟨⟨D2, W2⟩, e⟩ := doAny_part (by rw [doAny_ok _ hok2.ho]; exact f1) k
  have e' := e
  rw [doAny_ok _ hok2.ho] at e'
  obtain ⟨z, s, hmz, hh⟩ := crash_result hok2 k hk keep e'
  refine ⟨D2, W2, z, s, e, okay_do _ (s := (D, [])) (s' := (D2, W2)) hok2.ho e', hmz, ?_⟩
  rcases hh with hh | ⟨hh, h6⟩
  · exact .inl (hasAll_want hd2 hm2 hmz hh)
  · exact .inr ⟨hh, hasAll_want hd hm hmz (by rw [h6, e4])⟩
end Go.Proofs.YtiakfdhbbkpfhaaGreatDoor
