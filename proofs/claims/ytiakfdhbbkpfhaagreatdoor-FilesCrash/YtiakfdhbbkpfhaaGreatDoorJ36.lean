/-
  The law FilesDone walked.
-/
import Derived.Test.YtiakfdhbbkpfhaaGreatDoorJ35
import Derived.Test.YtiakfdhbbkpfhaaGreatDoorJ28
import Derived.Test.YtiakfdhbbkpfhaaGreatDoorJ19
import Derived.Test.YtiakfdhbbkpfhaaGreatDoorJ33
import Derived.Test.YtiakfdhbbkpfhaaGreatDoorJ34
namespace Go.Proofs.YtiakfdhbbkpfhaaGreatDoor
open Go.RowKit Go.WideShapes Rm

theorem formatD4 (a b : Addr) (ev old : Value) (n : Int) (u : FrameMode) (w : World) (hg : ErrT w) (hv : ErrV ev n) (ha : w.cell? a = some ev) (hb : w.cell? b = some old) (hf : w.frozen? b = false) :
    CallsD Tryz.prog 29 #[.pointer (some a), .pointer (some b)] u w fun e u' w' => u' = u ∧ e = .returned (.tuple #[]) ∧ ∃ w1, w' = w1.setCell b (.int .i64 n) ∧ Below w.heap.size w w1 := by
  have hn := number_v ev n hv w hg
  have hlt := World.block_lt_of_cell? _ _ hb
  go_enter_d Tryz.func29, Tryz.ntmps29
  go_wp2_with fail
  refine hn.mono ?_
  rintro e w1 ⟨rfl, hb1⟩
  have hb2 : w1.cell? b = some old := (hb1.cell hlt).trans hb
  have hf2 : w1.frozen? b = false := (hb1.frozen hlt).trans hf
  go_wp2
  go_end0
  exact ⟨rfl, w1, rfl, hb1⟩
theorem DiskF.up {base base' : Nat} {w w' : World} {v : Value} {count : Int} {data : List Nat} {ws : Puts} (h : DiskF base w v count data ws) (hb : base' ≤ base) (hs : w.heap.size ≤ w'.heap.size) (hk : ∀ k : Nat, base ≤ k → k < w.heap.size → w'.heap[k]? = w.heap[k]?) : DiskF base' w' v count data ws :=
  fun w2 h2 => h w2 (fun k k1 k2 => (h2 k (by omega) (by omega)).trans (hk k k1 k2))
/-- The cells of the results, laid down twice. -/
def fmtW (w1 : World) (H : Nat) (a b c : Value) : World := (((((((w1.setCell ⟨H, 0, none⟩ a).setCell ⟨H, 1, none⟩ b).setCell ⟨H, 2, none⟩ c).setCell ⟨H + 1 + 1, 0, none⟩ .nilIface).setCell ⟨H, 0, none⟩ a).setCell ⟨H, 1, none⟩ b).setCell ⟨H, 2, none⟩ c).setCell ⟨H + 1, 0, none⟩ (.int .i64 0)
section
variable {w1 : World} {H : Nat} {a b c x0 x1 x2 e r : Value}
theorem fmtW_err (h : w1.cell? ⟨H + 1 + 1, 0, none⟩ = some r) : (fmtW w1 H a b c).cell? ⟨H + 1 + 1, 0, none⟩ = some .nilIface := by
  unfold fmtW
  rw [o1 _ _ (ab_ne (by omega)), o1 _ _ (ab_ne (by omega)), o1 _ _ (ab_ne (by omega)), o1 _ _ (ab_ne (by omega))]
  refine o2 (u := r) ?_
  rw [o1 _ _ (ab_ne (by omega)), o1 _ _ (ab_ne (by omega)), o1 _ _ (ab_ne (by omega))]
  exact h
theorem fmtW_num (h : w1.cell? ⟨H + 1, 0, none⟩ = some e) : (fmtW w1 H a b c).cell? ⟨H + 1, 0, none⟩ = some (.int .i64 0) := by
  unfold fmtW
  refine o2 (u := e) ?_
  rw [o1 _ _ (ab_ne (by omega)), o1 _ _ (ab_ne (by omega)), o1 _ _ (ab_ne (by omega)), o1 _ _ (ab_ne (by omega)), o1 _ _ (ab_ne (by omega)), o1 _ _ (ab_ne (by omega)), o1 _ _ (ab_ne (by omega))]
  exact h
theorem fmtW_fr (h : w1.frozen? ⟨H + 1, 0, none⟩ = false) : (fmtW w1 H a b c).frozen? ⟨H + 1, 0, none⟩ = false := by
  unfold fmtW
  simpa using h
theorem fmtW_cells (h0 : w1.cell? ⟨H, 0, none⟩ = some x0) (h1 : w1.cell? ⟨H, 1, none⟩ = some x1) (h2 : w1.cell? ⟨H, 2, none⟩ = some x2) : (fmtW w1 H a b c).cell? ⟨H, 0, none⟩ = some a ∧ (fmtW w1 H a b c).cell? ⟨H, 1, none⟩ = some b ∧ (fmtW w1 H a b c).cell? ⟨H, 2, none⟩ = some c := by
  unfold fmtW
  refine ⟨?_, ?_, ?_⟩
  · rw [o1 _ _ (ab_ne (by omega)), o1 _ _ (ij_ne (by decide)), o1 _ _ (ij_ne (by decide))]
    refine o2 (u := a) ?_
    rw [o1 _ _ (ab_ne (by omega)), o1 _ _ (ij_ne (by decide)), o1 _ _ (ij_ne (by decide))]
    exact o2 h0
  · rw [o1 _ _ (ab_ne (by omega)), o1 _ _ (ij_ne (by decide))]
    refine o2 (u := b) ?_
    rw [o1 _ _ (ij_ne (by decide)), o1 _ _ (ab_ne (by omega)), o1 _ _ (ij_ne (by decide))]
    refine o2 (u := x1) ?_
    rw [o1 _ _ (ij_ne (by decide))]
    exact h1
  · rw [o1 _ _ (ab_ne (by omega))]
    refine o2 (u := c) ?_
    rw [o1 _ _ (ij_ne (by decide)), o1 _ _ (ij_ne (by decide)), o1 _ _ (ab_ne (by omega))]
    refine o2 (u := x2) ?_
    rw [o1 _ _ (ij_ne (by decide)), o1 _ _ (ij_ne (by decide))]
    exact h2
theorem fmtW_other {k : Nat} (h0 : k ≠ H) (h1 : k ≠ H + 1) (h2 : k ≠ H + 1 + 1) : (fmtW w1 H a b c).heap[k]? = w1.heap[k]? := by
  unfold fmtW
  rw [set_keep h1, set_keep h0, set_keep h0, set_keep h0, set_keep h2, set_keep h0, set_keep h0, set_keep h0]
theorem fmtW_below {w : World} (h : Below H w w1) : Below H w (fmtW w1 H a b c) := by
  unfold fmtW
  exact below_setR _ _ (below_setR _ _ (below_setR _ _ (below_setR _ _ (below_setR _ _ (below_setR _ _ (below_setR _ _ (below_setR _ _ h (Nat.le_refl _)) (Nat.le_refl _)) (Nat.le_refl _)) (by omega)) (Nat.le_refl _)) (Nat.le_refl _)) (Nat.le_refl _)) (by omega)
theorem fmtW_size : (fmtW w1 H a b c).heap.size = w1.heap.size := by unfold fmtW; simp
end
/-- What Format leaves in memory. -/
structure FmtN (w : World) (n : Nat) (e : Ending) (w' : World) : Prop where
  ex : ∃ v D, e = .returned (.tuple #[v, .int .i64 0]) ∧ FmtIs n D ∧ DiskF w.heap.size w' v (n : Int) D [] ∧ Below w.heap.size w w'
set_option maxRecDepth 8000 in
set_option maxHeartbeats 4000000 in
theorem Format_ok (n : Nat) (w : World) (hL : Laid w) (h1 : 96 ≤ n) (h2 : n ≤ 4096) :
    Calls Tryz.prog 8 #[.int .i64 (n : Int)] w fun e w' => FmtN w n e w' := by
  have hb3 : Below w.heap.size w (((w.alloc (.cells #[.int .i64 0, .slice none 0 0, .slice none 0 0] 25)).alloc (.cells #[.int .i64 0] 26)).alloc (.cells #[.nilIface] 76)) := ((below_alloc w _).alloc (by simp) _).alloc (by simp; omega) _
  have hft := format_ok n (((w.alloc (.cells #[.int .i64 0, .slice none 0 0, .slice none 0 0] 25)).alloc (.cells #[.int .i64 0] 26)).alloc (.cells #[.nilIface] 76)) h1 h2
  have HG : Hid (ErrT w) := hL.err
  have hmf : ∀ (fn : Fn) (first cap : Array Value) (w : World), (Instr.makeFunc fn first cap).run Tryz.prog w = .ok (.func fn first cap) w := fun _ _ _ _ => rfl
  have HDK : Hid ((((w.alloc (.cells #[.int .i64 0, .slice none 0 0, .slice none 0 0] 25)).alloc (.cells #[.int .i64 0] 26)).alloc (.cells #[.nilIface] 76)).heap[w.heap.size]? = some (.cells #[.int .i64 0, .slice none 0 0, .slice none 0 0] 25 (0, 0))) := by
    have h1 := heap_alloc_new w (.cells #[.int .i64 0, .slice none 0 0, .slice none 0 0] 25)
    have h2 := ((below_alloc (w.alloc (.cells #[.int .i64 0, .slice none 0 0, .slice none 0 0] 25)) (.cells #[.int .i64 0] 26)).block _ (by simp)).trans h1
    exact ((below_alloc ((w.alloc (.cells #[.int .i64 0, .slice none 0 0, .slice none 0 0] 25)).alloc (.cells #[.int .i64 0] 26)) (.cells #[.nilIface] 76)).block _ (by simp; omega)).trans h2
  clear hL h1 h2
  go_enter_defers Tryz.func8, Tryz.ntmps8
  go_wp2_with fail
  refine hft.mono ?_
  rintro e w1 ⟨v, D, rfl, hD, hF, hbb⟩
  have hs1 := hbb.size
  simp at hs1
  obtain ⟨ce, cr, fe, fr⟩ := vars2 (a := .int .i64 0) (b := .nilIface) (s := 26) (t := 76) (w.alloc (.cells #[.int .i64 0, .slice none 0 0, .slice none 0 0] 25)) w1 hbb
  simp only [heap_size_alloc] at ce cr fe fr
  obtain ⟨⟨d0, d1, d2⟩, g0, g1, g2⟩ := cells3f ((hbb.block _ (lt_heap HDK.out)).trans HDK.out)
  have HB : Hid (Below w.heap.size w w1) := hb3.trans (hbb.mono hb3.size)
  simp only [heap_size_alloc] at hF
  have HF : Hid (FmtIs n D ∧ DiskF (w.heap.size + 1 + 1 + 1) w1 v (n : Int) D []) := ⟨hD, hF⟩
  obtain ⟨p, c, q, m, rfl, _⟩ := hF.self.parts
  simp only [List.length_nil] at HF ⊢
  obtain ⟨dl, hdl⟩ : ∃ k, D.length = k := ⟨_, rfl⟩
  rw [hdl] at HF ⊢
  clear hft hb3 hbb hD hF hdl
  go_wp2
  have g1 := fmtW_err (a := .int .i64 (n : Int)) (b := .slice p dl c) (c := .slice q 0 m) cr
  have g2 := fmtW_num (a := .int .i64 (n : Int)) (b := .slice p dl c) (c := .slice q 0 m) ce
  have g3 := fmtW_fr (a := .int .i64 (n : Int)) (b := .slice p dl c) (c := .slice q 0 m) fe
  have g4 := fmtW_cells (a := .int .i64 (n : Int)) (b := .slice p dl c) (c := .slice q 0 m) d0 d1 d2
  have hbW : Below w.heap.size w (fmtW w1 w.heap.size (.int .i64 (n : Int)) (.slice p dl c) (.slice q 0 m)) := fmtW_below HB.out
  have hoW : ∀ k, w.heap.size + 1 + 1 + 1 ≤ k → (fmtW w1 w.heap.size (.int .i64 (n : Int)) (.slice p dl c) (.slice q 0 m)).heap[k]? = w1.heap[k]? := fun k hk => fmtW_other (by omega) (by omega) (by omega)
  have hsW : (fmtW w1 w.heap.size (.int .i64 (n : Int)) (.slice p dl c) (.slice q 0 m)).heap.size = w1.heap.size := fmtW_size
  show bodyPostD _ _ _ _ _ (fmtW w1 w.heap.size (.int .i64 (n : Int)) (.slice p dl c) (.slice q 0 m))
  generalize fmtW w1 w.heap.size (.int .i64 (n : Int)) (.slice p dl c) (.slice q 0 m) = W at *
  refine leaves_cons (f := 29) (args := #[.pointer (some ⟨w.heap.size + 1 + 1, 0, none⟩), .pointer (some ⟨w.heap.size + 1, 0, none⟩)]) (by simp) (by simp [go_sem]) ?_
  refine (formatD4 ⟨w.heap.size + 1 + 1, 0, none⟩ ⟨w.heap.size + 1, 0, none⟩ .nilIface (.int .i64 0) 0 .returning _ (HG.out.below hbW) (.inl ⟨rfl, rfl⟩) g1 g2 g3).mono ?_
  rintro e u' w'' ⟨rfl, rfl, w3, rfl, hb3⟩
  have hltE := World.block_lt_of_cell? _ _ g2
  have hltD := World.block_lt_of_cell? _ _ g4.1
  have k1 : (w3.setCell ⟨w.heap.size + 1, 0, none⟩ (.int .i64 0)).cell? ⟨w.heap.size + 1, 0, none⟩ = some (.int .i64 0) := World.cell?_setCell_same _ _ _ ((hb3.cell hltE).trans g2)
  have k2 : Below w.heap.size w (w3.setCell ⟨w.heap.size + 1, 0, none⟩ (.int .i64 0)) := below_setR _ _ (hbW.trans (hb3.mono hbW.size)) (by omega)
  have m0 : (w3.setCell ⟨w.heap.size + 1, 0, none⟩ (.int .i64 0)).cell? ⟨w.heap.size, 0, none⟩ = some (.int .i64 (n : Int)) := (o1 _ _ (ab_ne (by omega))).trans ((hb3.cell hltD).trans g4.1)
  have m1 : (w3.setCell ⟨w.heap.size + 1, 0, none⟩ (.int .i64 0)).cell? ⟨w.heap.size, 1, none⟩ = some (.slice p dl c) := (o1 _ _ (ab_ne (by omega))).trans ((hb3.cell (World.block_lt_of_cell? _ _ g4.2.1)).trans g4.2.1)
  have m2 : (w3.setCell ⟨w.heap.size + 1, 0, none⟩ (.int .i64 0)).cell? ⟨w.heap.size, 2, none⟩ = some (.slice q 0 m) := (o1 _ _ (ab_ne (by omega))).trans ((hb3.cell (World.block_lt_of_cell? _ _ g4.2.2)).trans g4.2.2)
  have k3 : DiskF w.heap.size (w3.setCell ⟨w.heap.size + 1, 0, none⟩ (.int .i64 0)) (.agg #[.int .i64 (n : Int), .slice p dl c, .slice q 0 m]) (n : Int) D [] := HF.out.2.up (by omega) (by have := hb3.size; simp; omega) (fun k k1 k2 => (set_keep (by omega)).trans ((hb3.block k (by omega)).trans (hoW k k1)))
  generalize w3.setCell ⟨w.heap.size + 1, 0, none⟩ (.int .i64 0) = w4 at *
  simp [Leaves, settle, results, Tryz.results8, go_sem, k1, m0, m1, m2]
  exact ⟨⟨_, D, rfl, HF.out.1, k3, k2⟩⟩
end Go.Proofs.YtiakfdhbbkpfhaaGreatDoor
namespace Go.Proofs.YtiakfdhbbkpfhaaGreatDoor
open Go.RowKit Go.WideShapes Rm

theorem chg_under (w : World) (cs : Array Value) (t : TypeId) (o : Obj) : ((w.alloc (.cells cs t)).alloc o).heap[w.heap.size]? = some (.cells cs t (0, 0)) := ((below_alloc (w.alloc (.cells cs t)) o).block _ (by simp)).trans (heap_alloc_new w _)
theorem chg_over (w : World) (cs : Array Value) (t : TypeId) (o : Obj) : ((w.alloc o).alloc (.cells cs t)).heap[w.heap.size + 1]? = some (.cells cs t (0, 0)) := by
  have h := heap_alloc_new (w.alloc o) (.cells cs t)
  simpa using h
theorem a_beq : (aName == aName) = true := by decide +kernel
theorem want_a (n : Nat) : wantN ltB [] ([aFile n].map toV) = [(aName, numsOf (textS n))] := rfl
/-- Behind the turn Get tells the file's bytes. -/
theorem alive_get {D D2 : List Nat} {y : DirV} {s : Int} (n : Nat) (h : filesD D2 [] y = wantN ltB (filesD D [] emptyD) ([aFile n].map toV)) : getN D2 [] (some (y, s)) 0 aName = (0, numsOf (textS n)) := by
  have e : filesD D [] emptyD = [] := rfl
  rw [e, want_a] at h
  unfold filesD at h
  obtain ⟨f, hf⟩ : ∃ f, y.files = [f] := by
    cases hy : y.files with
    | nil => rw [hy] at h; cases h
    | cons f l =>
      cases l with
      | nil => exact ⟨f, rfl⟩
      | cons g l => rw [hy] at h; simp at h
  rw [hf] at h
  simp only [List.map_cons, List.map_nil, List.cons.injEq, Prod.mk.injEq, and_true] at h
  unfold getN
  dsimp only
  rw [if_pos a_name]
  have hfd : findN y.files aName = some 0 := by
    unfold findN
    rw [hf]
    simp [h.1, a_beq]
  rw [hfd]
  simp only
  rw [hf]
  exact congrArg (Prod.mk 0) h.2
theorem chg_a {w : World} {g : Nat} (n : Nat) (h : w.heap[g]? = some (.cells #[.string aName, .string (textS n), .bool false] 40 (0, 0))) : ChgIn w (some ⟨g, 0, none⟩) 1 1 [aFile n] := by
  obtain ⟨c0, c1, c2⟩ := three_cells h
  refine ⟨fun _ => ⟨g, 0, rfl, fun i hi => ?_⟩, rfl, Nat.le_refl _, by decide, fun y hy => ?_⟩
  · obtain rfl : i = 0 := by simp at hi; exact hi
    exact ⟨c0, c1, c2⟩
  · rw [List.mem_singleton.1 hy]
    show (aName.size : Int) ≤ _
    decide
/-- What turned answers in alive. -/
structure TdA (w : World) (n : Nat) (e : Ending) (w' : World) : Prop where
  ex : ∃ q1 n1 m1 q2 n2 m2 D2 y s, e = .returned (.tuple #[.agg #[.int .i64 100, .slice q1 n1 m1, .slice q2 n2 m2], .int .i64 0]) ∧ Below w.heap.size w w' ∧ DiskF w.heap.size w' (.agg #[.int .i64 100, .slice q1 n1 m1, .slice q2 n2 m2]) 100 D2 [] ∧ MountIs 100 D2 [] (some (y, s)) 0 ∧ getN D2 [] (some (y, s)) 0 aName = (0, numsOf (textS n))
theorem turned_a (v : Value) (D : List Nat) (g : Nat) (w : World) (hL : Laid w) (hD : FmtIs 100 D) (hd : DiskIn w v 100 D []) (h : w.heap[g]? = some (.cells #[.string aName, .string (textS 130), .bool false] 40 (0, 0))) :
    Calls Tryz.prog 16 #[v, .slice (some ⟨g, 0, none⟩) 1 1] w fun e w' => TdA w 130 e w' := by
  have hm : MountIs 100 D [] (some (emptyD, 0)) 0 := fmt_mount (n := 100) (by decide) (by decide) hD
  have hok0 : Okay 100 D [] := fmt_okay (n := 100) (by decide) (by decide) hD
  refine (turned_any v 100 D [] (some ⟨g, 0, none⟩) 1 1 [aFile 130] w hL hd _ 0 hm (chg_a 130 h) (fun y hy => ?_)).mono ?_
  · rw [List.mem_singleton.1 hy]
    show ((textS 130).size : Int) ≤ _
    rw [textS_size]
    decide
  · rintro e w' ⟨m, A, c0, q1, n1, m1, q2, n2, m2, E, hS, rfl, hb, hc⟩
    obtain ⟨hm0, hAl⟩ := alive_turn hD hS
    subst hm0
    rcases hc with ⟨h0, _⟩ | ⟨_, hE, hdi⟩
    · exact absurd rfl h0
    · obtain ⟨x, y, at_, other, fs, hr, hok⟩ := turnIs_ok hm hS
      obtain ⟨D2, e1, ok2, m2', f2⟩ := turn_result hok (by simp; omega)
      have hdo : doAny 100 D [] A = .ok (D2, []) := by rw [doAny_ok _ hok0]; exact e1
      rw [hdo] at hE hdi
      simp only [resE, resC, resD, resW] at hE hdi
      subst hE
      have hc0 : c0 = 100 := by
        obtain ⟨_, _, _, _, e, _⟩ := hdi.self.parts
        simp only [Value.agg.injEq] at e
        have := congrArg (fun a : Array Value => a[0]?) e
        simpa using this
      subst hc0
      have hx : x = emptyD := by
        simp only [Option.some.injEq, Prod.mk.injEq] at hr
        exact hr.1.symm
      subst hx
      exact ⟨⟨q1, n1, m1, q2, n2, m2, D2, y, _, rfl, hb, hdi, m2', alive_get 130 f2⟩⟩
/-- A new box of a disk, still nought. -/
def ZX (w : World) (g : Nat) : Prop := w.heap[g]? = some (.cells #[.int .i64 0, .slice none 0 0, .slice none 0 0] 25 (0, 0))
structure ZF (w : World) (g : Nat) : Prop where
  a : ZX w g
/-- The box lies under base. -/
structure ZH (w : World) (g base : Nat) : Prop where
  a : ZF w g
  b : g < base
theorem zx_new {G : Prop} {w w' : World} (h : Below (w.alloc (.cells #[.int .i64 0, .slice none 0 0, .slice none 0 0] 25)).heap.size (w.alloc (.cells #[.int .i64 0, .slice none 0 0, .slice none 0 0] 25)) w' → ZF w' w.heap.size → G) : Below (w.alloc (.cells #[.int .i64 0, .slice none 0 0, .slice none 0 0] 25)).heap.size (w.alloc (.cells #[.int .i64 0, .slice none 0 0, .slice none 0 0] 25)) w' → G :=
  fun hb => h hb ⟨(hb.block _ (by simp)).trans (heap_alloc_new w _)⟩
theorem zx_newD {G : Prop} {w w' : World} (h : Below (w.alloc (.cells #[.int .i64 0, .slice none 0 0, .slice none 0 0] 25)).drew.heap.size (w.alloc (.cells #[.int .i64 0, .slice none 0 0, .slice none 0 0] 25)).drew w' → ZF w' w.heap.size → G) : Below (w.alloc (.cells #[.int .i64 0, .slice none 0 0, .slice none 0 0] 25)).drew.heap.size (w.alloc (.cells #[.int .i64 0, .slice none 0 0, .slice none 0 0] 25)).drew w' → G :=
  fun hb => h hb ⟨(((below_drC hb)).block _ (by simp)).trans (heap_alloc_new w _)⟩
theorem zx_newC {G : Prop} {w w' : World} {cs : Array Value} {t : TypeId} (h : Below ((w.alloc (.cells cs t)).alloc (.cells #[.int .i64 0, .slice none 0 0, .slice none 0 0] 25)).heap.size ((w.alloc (.cells cs t)).alloc (.cells #[.int .i64 0, .slice none 0 0, .slice none 0 0] 25)) w' → ZH w' (w.heap.size + 1) ((w.alloc (.cells cs t)).alloc (.cells #[.int .i64 0, .slice none 0 0, .slice none 0 0] 25)).heap.size → G) : Below ((w.alloc (.cells cs t)).alloc (.cells #[.int .i64 0, .slice none 0 0, .slice none 0 0] 25)).heap.size ((w.alloc (.cells cs t)).alloc (.cells #[.int .i64 0, .slice none 0 0, .slice none 0 0] 25)) w' → G :=
  fun hb => h hb ⟨by
    have h1 := heap_alloc_new (w.alloc (.cells cs t)) (.cells #[.int .i64 0, .slice none 0 0, .slice none 0 0] 25)
    have h2 : ((w.alloc (.cells cs t)).alloc (.cells #[.int .i64 0, .slice none 0 0, .slice none 0 0] 25)).heap[w.heap.size + 1]? = some (.cells #[.int .i64 0, .slice none 0 0, .slice none 0 0] 25 (0, 0)) := by simpa using h1
    exact ⟨(hb.block _ (lt_heap h2)).trans h2⟩, by rw [World.size_alloc, World.size_alloc]; exact Nat.lt_succ_self _⟩
theorem zx_under {G : Prop} {w w' : World} {cs : Array Value} {t : TypeId} (h : Below ((w.alloc (.cells #[.int .i64 0, .slice none 0 0, .slice none 0 0] 25)).alloc (.cells cs t)).heap.size ((w.alloc (.cells #[.int .i64 0, .slice none 0 0, .slice none 0 0] 25)).alloc (.cells cs t)) w' → ZH w' w.heap.size ((w.alloc (.cells #[.int .i64 0, .slice none 0 0, .slice none 0 0] 25)).alloc (.cells cs t)).heap.size → G) : Below ((w.alloc (.cells #[.int .i64 0, .slice none 0 0, .slice none 0 0] 25)).alloc (.cells cs t)).heap.size ((w.alloc (.cells #[.int .i64 0, .slice none 0 0, .slice none 0 0] 25)).alloc (.cells cs t)) w' → G :=
  fun hb => h hb ⟨by
    have h2 := chg_under w #[.int .i64 0, .slice none 0 0, .slice none 0 0] 25 (.cells cs t)
    exact ⟨(hb.block _ (lt_heap h2)).trans h2⟩, by rw [World.size_alloc, World.size_alloc]; omega⟩
theorem ZF.next {w w' : World} {g : Nat} (h : ZF w g) (hb : Below w.heap.size w w') : ZF w' g := ⟨(hb.block _ (lt_heap h.a)).trans h.a⟩
theorem ZF.cells {w : World} {g : Nat} (h : ZF w g) : (w.cell? ⟨g, 0, none⟩ = some (.int .i64 0) ∧ w.cell? ⟨g, 1, none⟩ = some (.slice none 0 0) ∧ w.cell? ⟨g, 2, none⟩ = some (.slice none 0 0)) ∧ w.frozen? ⟨g, 0, none⟩ = false ∧ w.frozen? ⟨g, 1, none⟩ = false ∧ w.frozen? ⟨g, 2, none⟩ = false := cells3f h.a
theorem zx_no {G P : Prop} (h : P → True → G) : P → G := fun p => h p trivial
theorem zx_keep {G : Prop} {w w' : World} {g : Nat} (h : Below w.heap.size w w' → ZF w' g → G) : ZF w g → Below w.heap.size w w' → G := fun z b => h b (z.next b)
theorem zx_keepC {G : Prop} {w w' : World} {g : Nat} {o : Obj} (h : Below (w.alloc o).heap.size (w.alloc o) w' → ZH w' g (w.alloc o).heap.size → G) : ZF w g → Below (w.alloc o).heap.size (w.alloc o) w' → G := fun z b => h b ⟨z.next (below_bt (below_alloc _ _) b), by have := lt_heap z.a; rw [World.size_alloc]; omega⟩
theorem below3 {base g : Nat} {w0 w : World} (h : Below base w0 w) (hg : base ≤ g) (a b c : Value) : Below base w0 (((w.setCell ⟨g, 0, none⟩ a).setCell ⟨g, 1, none⟩ b).setCell ⟨g, 2, none⟩ c) := below_setR _ _ (below_setR _ _ (below_setR _ _ h hg) hg) hg
theorem zx_drop {G P : Prop} (h : P → G) : True → P → G := fun _ p => h p
set_option maxRecDepth 8000 in
set_option maxHeartbeats 12000000 in
theorem alive_t (w : World) (hL : Laid w) : Calls Tryz.prog 17 #[] w fun e w' => e = .returned (.bool true) ∧ Below w.heap.size w w' := by
  have HL : Hid (Laid w) := hL
  have hf := Format_ok 100 w hL (by decide) (by decide)
  clear hL
  go_enter Tryz.func17, Tryz.ntmps17
  go_wp2_with fail
  refine hf.mono ?_
  rintro e w1 ⟨v1, D, rfl, hD, hF1, hb1⟩
  obtain ⟨p, c, q, m, hv1, _⟩ := hF1.self.parts
  subst hv1
  simp only [List.length_nil] at hF1 ⊢
  obtain ⟨dl, hdl⟩ : ∃ k, D.length = k := ⟨_, rfl⟩
  rw [hdl] at hF1 ⊢
  have HB1 : Hid (Below w.heap.size w w1) := hb1
  obtain ⟨wB, hwB⟩ : ∃ wB, w1.alloc (.cells #[.int .i64 100, .slice p dl c, .slice q 0 m] 25) = wB := ⟨_, rfl⟩
  have HBB : Hid (Below w1.heap.size w1 wB) := by show Below _ _ _; rw [← hwB]; exact below_alloc _ _
  have HBX : Hid (wB.heap[w1.heap.size]? = some (.cells #[.int .i64 100, .slice p dl c, .slice q 0 m] 25 (0, 0))) := by show _ = _; rw [← hwB]; exact heap_alloc_new _ _
  have HKS : Hid (∀ w', Below wB.heap.size wB w' → (w'.cell? ⟨w1.heap.size, 0, none⟩ = some (.int .i64 100) ∧ w'.cell? ⟨w1.heap.size, 1, none⟩ = some (.slice p dl c) ∧ w'.cell? ⟨w1.heap.size, 2, none⟩ = some (.slice q 0 m)) ∧ Below wB.heap.size wB w') := fun w' hb => ⟨three_cells ((hb.block _ (lt_heap HBX.out)).trans HBX.out), hb⟩
  have HTD : Hid (∀ w' g, Below wB.heap.size wB w' → w'.heap[g]? = some (.cells #[.string ⟨#[97]⟩, .string (textS 130), .bool false] 40 (0, 0)) → Calls Tryz.prog 16 #[.agg #[.int .i64 100, .slice p dl c, .slice q 0 m], .slice (some ⟨g, 0, none⟩) 1 1] w' fun e w'' => TdA w' 130 e w'') := fun w' g hb hg => turned_a _ D g w' (HL.out.below (below_bt HB1.out (below_bt HBB.out hb))) hD (hF1.below (below_bt HBB.out hb)) hg
  have HTX : Hid (∀ w', Calls Tryz.prog 14 #[.int .i64 130] w' fun e w'' => e = .returned (.string (textS 130)) ∧ Below w'.heap.size w' w'') := fun w' => text_t 130 w' (by decide)
  clear hf hD hF1 hb1 hdl
  go_upto_region 2 with fail
  (try rw [hwB])
  clear hwB
  obtain ⟨⟨x0, x1, x2⟩, _⟩ := HKS.out wB (Below.refl _ _)
  go_region_held3 (fun w' => (w'.cell? ⟨w1.heap.size, 0, none⟩ = some (.int .i64 100) ∧ w'.cell? ⟨w1.heap.size, 1, none⟩ = some (.slice p dl c) ∧ w'.cell? ⟨w1.heap.size, 2, none⟩ = some (.slice q 0 m)) ∧ Below wB.heap.size wB w')
    (with_reducible first | exact HKS.out _ (Below.refl _ _).drew | exact HKS.out _ (Below.refl _ _) | exact HKS.out _ (below_alloc _ _).drew | exact HKS.out _ (below_alloc _ _) | exact HKS.out _ (below3 hB4 (Nat.le_succ_of_le hB3.size) _ _ _) | exact HKS.out _ (below3 hB4 hB3.size _ _ _) | exact HKS.out _ (below3 hB4 hB2.size _ _ _) | exact HKS.out _ (below3 hB4 (Nat.le_refl _) _ _ _) | exact HKS.out _ hB4 | exact HKS.out _ (below_bt hB4 (below_alloc _ _)) | exact HKS.out _ hB3 | exact HKS.out _ (below_bt hB3 (below_alloc _ _)) | exact HKS.out _ (below_bt hB3 (below_bt (below_alloc _ _) (below_alloc _ _))) | exact HKS.out _ hB2 | exact HKS.out _ (below_bt hB2 (below_alloc _ _)) | assumption)
    (first
    | (go_at_call 14; refine (HTX.out _).mono ?_; rintro e w2 ⟨rfl, hb2⟩; revert hb2; (first | (refine zx_new ?_; intro hb2 hz2; obtain ⟨⟨i0, i1, i2⟩, j0, j1, j2⟩ := hz2.cells) | (refine zx_newD ?_; intro hb2 hz2; obtain ⟨⟨i0, i1, i2⟩, j0, j1, j2⟩ := hz2.cells) | (refine zx_no ?_; intro hb2 hz2)); have hB2 : Below wB.heap.size wB w2 := (by first | exact hb2 | exact below_drC hb2 | exact below_bt (below_alloc _ _) hb2 | exact below_bt (below_alloc _ _) (below_drC hb2)))
    | (go_at_call 13; refine (put_t _ _ _).mono ?_; rintro e w3 ⟨rfl, hb3⟩; revert hz2 hb3; (first | (refine zx_keep ?_; intro hb3 hz3; obtain ⟨⟨i0, i1, i2⟩, j0, j1, j2⟩ := hz3.cells) | (refine zx_drop ?_; (first | (refine zx_new ?_; intro hb3 hz3; obtain ⟨⟨i0, i1, i2⟩, j0, j1, j2⟩ := hz3.cells) | (refine zx_no ?_; intro hb3 hz3)))); have hB3 : Below wB.heap.size wB w3 := below_bt hB2 (by first | exact hb3 | exact below_drC hb3 | exact below_bt (below_alloc _ _) hb3 | exact below_bt (below_alloc _ _) (below_drC hb3)))
    | (go_at_call 16; go_loud (refine (HTD.out _ _ (below_bt hB3 (by first | exact below_alloc _ _ | exact (below_alloc _ _).drew | exact below_bt (below_alloc _ _) (below_alloc _ _) | exact (below_bt (below_alloc _ _) (below_alloc _ _)).drew)) (by first | exact heap_alloc_new _ _ | exact chg_under _ _ _ _ | exact chg_over _ _ _ _)).mono ?_; rintro e w4 ⟨q1, n1, m1, q2, n2, m2, D2, y, s, rfl, hb4, hd4, hm4, hg4⟩; revert hz3 hb4; (first | (refine zx_keepC ?_; intro hb4 hz4; obtain ⟨⟨i0, i1, i2⟩, j0, j1, j2⟩ := hz4.a.cells) | (refine zx_drop ?_; (first | (refine zx_newC ?_; intro hb4 hz4; obtain ⟨⟨i0, i1, i2⟩, j0, j1, j2⟩ := hz4.a.cells) | (refine zx_under ?_; intro hb4 hz4; obtain ⟨⟨i0, i1, i2⟩, j0, j1, j2⟩ := hz4.a.cells) | (refine zx_no ?_; intro hb4 hz4)))); have hB4 : Below wB.heap.size wB w4 := below_bt hB3 (by first | exact below_bt (below_alloc _ _) hb4 | exact below_bt (below_bt (below_alloc _ _) (below_alloc _ _)) hb4 | exact below_bt (below_alloc _ _) (below_drC hb4))))
    | fail)
  all_goals
    rename_i hh
    have HBF : Hid _ := below_bt HB1.out (below_bt HBB.out hh.2)
    have HM4 : Hid (MountIs 100 D2 [] (some (y, s)) 0 ∧ getN D2 [] (some (y, s)) 0 aName = (0, numsOf (textS 130))) := ⟨hm4, hg4⟩
    have HD4 : Hid _ := hd4
    clear hm4 hg4 hd4
    go_wp2_with fail
    refine (Get_any _ aName 100 D2 [] _ (HL.out.below HBF.out) (by first | exact DiskF.set3 HD4.out hz4.b _ _ _ | exact DiskF.below HD4.out (below_alloc _ _)) (by decide) _ 0 HM4.out.1 0 _ HM4.out.2).mono ?_
    rintro e w5 ⟨⟨lv, rfl, hown⟩, hb5⟩
    obtain ⟨q5, m5, rfl, _, _, _⟩ := own_form hown
    have hln : (numsOf (textS 130)).length = 130 := by rw [numsOf_len, textS_size]
    rw [hln] at hown ⊢
    have HCV : Hid (∀ w', Below w5.heap.size w5 w' → (convert 22 9 (.slice q5 130 m5)).run Tryz.prog w' = .ok (.string (textS 130)) w' ∧ Below w5.heap.size w5 w') := fun w' hb => ⟨by
      have h1 : BIn w' q5 (numsOf (textS 130)) := own_at (own_below hown hb) hln.symm (numsOf_lt _)
      have h2 := conv_at (c := m5) h1 hln.symm
      rw [strOf_nums] at h2
      exact h2, hb⟩
    have HBG : Hid (Below w.heap.size w w5) := below_bt HBF.out hb5
    clear hown hh hb5
    go_upto_region 4 with fail
    obtain ⟨cv5, _⟩ := HCV.out w5 (Below.refl _ _)
    go_region_held3 (fun w' => (convert 22 9 (.slice q5 130 m5)).run Tryz.prog w' = .ok (.string (textS 130)) w' ∧ Below w5.heap.size w5 w')
      (with_reducible first | exact HCV.out _ (Below.refl _ _).drew | exact HCV.out _ (Below.refl _ _) | exact HCV.out _ hb6 | exact HCV.out _ (below_drC hb6) | assumption)
      (first
        | (go_at_call 14; refine (HTX.out _).mono ?_; rintro e w6 ⟨rfl, hb6⟩)
        | fail)
    rename_i hF
    have HBZ : Hid _ := below_bt HBG.out hF.2
    clear hF
    go_wp2
    go_ret
    exact ⟨rfl, HBZ.out⟩
end Go.Proofs.YtiakfdhbbkpfhaaGreatDoor
namespace Go.Proofs.YtiakfdhbbkpfhaaGreatDoor
open Go.RowKit Go.WideShapes Rm

/-- What heavy adds up. -/
def heavyS (l : List CV) : Nat := (l.map fun c => min c.val.size 1000000).sum
theorem heavyS_snoc {l : List CV} {k : Nat} (h : k < l.length) : heavyS (l.take (k + 1)) = heavyS (l.take k) + min (l.getD k zeroCV).val.size 1000000 := by
  rw [take_snoc (d := zeroCV) h]
  unfold heavyS
  rw [List.map_append, List.sum_append]
  simp
theorem heavyS_le : ∀ (l : List CV), heavyS l ≤ 1000000 * l.length
  | [] => by simp [heavyS]
  | c :: l => by
    have := heavyS_le l
    unfold heavyS at *
    simp only [List.map_cons, List.sum_cons, List.length_cons]
    omega
theorem heavyS_each : ∀ {l : List CV}, heavyS l ≤ 700000 → ∀ y ∈ l, y.val.size ≤ 700000
  | [], _, y, hy => by cases hy
  | c :: l, h, y, hy => by
    unfold heavyS at h
    simp only [List.map_cons, List.sum_cons] at h
    rcases List.mem_cons.1 hy with rfl | hy
    · omega
    · exact heavyS_each (l := l) (by unfold heavyS; omega) y hy
/-- What heavy answers. -/
structure HeavyP (w : World) (l : List CV) (e : Ending) (w' : World) : Prop where
  ex : ∃ r : Bool, e = .returned (.bool r) ∧ (r = false → l.length ≤ 200 ∧ ∀ y ∈ l, y.val.size ≤ 700000) ∧ Below w.heap.size w w'
set_option maxRecDepth 8000 in
set_option maxHeartbeats 1000000 in
theorem heavy_any (q : Option Addr) (n c : Nat) (l : List CV) (w : World) (hn0 : n = l.length) (hq : CsIn w q l) (hn : (n : Int) ≤ 9223372036854775807) (hvs : ∀ y ∈ l, (y.val.size : Int) ≤ 9223372036854775807) :
    Calls Tryz.prog 19 #[.slice q n c] w fun e w' => HeavyP w l e w' := by
  have HN : Hid (n = l.length) := hn0
  have HQ : Hid (CsIn w q l) := hq
  have HVS : Hid (∀ y ∈ l, (y.val.size : Int) ≤ 9223372036854775807) := hvs
  clear hn0 hq hvs
  go_enter Tryz.func19, Tryz.ntmps19
  go_wp2
  go_loopw [3, 4] (fun t i wr => ∃ k : Nat, ∃ z : Int, k ≤ n ∧ i = .int .i64 k ∧ t = .int .i64 z ∧ (k ≤ 200 → z = (heavyS (l.take k) : Int)) ∧ Below w.heap.size w wr) (fun _ i _ => n - (intOf i).toNat)
  case atStart => exact ⟨0, 0, by omega, rfl, rfl, fun _ => by simp [heavyS], Below.refl _ _⟩
  case round =>
    obtain ⟨k, z, hk, rfl, rfl, hz, hbel⟩ := hrel
    have HBE : Hid (Below w.heap.size w wr) := hbel
    clear hbel
    by_cases hkn : k < n
    · have g1 : decide (k < n) = true := decide_eq_true hkn
      have hkI : (k : Int) < (n : Int) := by omega
      have hk0 : (0 : Int) ≤ (k : Int) := by omega
      obtain ⟨ba, oa, rfl⟩ := HQ.out.addr (by have := HN.out; omega)
      obtain ⟨x0, x1, _⟩ := (HQ.out.below HBE.out).at (k := k) (by have := HN.out; omega)
      have HSN : Hid _ := heavyS_snoc (l := l) (k := k) (by have := HN.out; omega)
      have hvk : ((l.getD k zeroCV).val.size : Int) ≤ 9223372036854775807 := HVS.out _ (by rw [getD_eq (by have := HN.out; omega)]; exact List.getElem_mem _)
      generalize (l.getD k zeroCV).key = ke at *
      generalize (l.getD k zeroCV).val = ve at *
      by_cases h2 : k < 200
      · have hz1 := hz (by omega)
        have hzl : heavyS (l.take k) ≤ 1000000 * 200 := by
          have h := heavyS_le (l.take k)
          rw [List.length_take] at h
          omega
        obtain ⟨Z, hZ⟩ : ∃ Z, heavyS (l.take k) = Z := ⟨_, rfl⟩
        rw [hZ] at hz1 hzl HSN
        subst hz1
        have HK : Hid (k < n) := hkn
        clear hz hZ
        go_wp2
        go_roundw
        case rel => exact ⟨k + 1, _, HK.out, by go_num, rfl, fun _ => by rw [HSN.out]; omega, HBE.out⟩
        case measure => simp [intOf]; omega
      · have HK : Hid (¬ k < 200) := h2
        clear hz h2
        go_wp2
        go_roundw
        case rel => exact ⟨k + 1, _, by omega, by go_num, rfl, fun h => absurd h (by have := HK.out; omega), HBE.out⟩
        case measure => simp [intOf]; omega
    · obtain rfl : k = n := by omega
      have g1 : decide (k < k) = false := decide_eq_false hkn
      have e1 : l.take k = l := by rw [HN.out]; exact List.take_length
      by_cases h5 : k ≤ 200
      · have hz1 := hz h5
        rw [e1] at hz1
        have q1 : decide ((200 : Int) < (k : Int)) = false := decide_eq_false (by omega)
        by_cases h6 : z ≤ 700000
        · have HR : Hid (l.length ≤ 200 ∧ ∀ y ∈ l, y.val.size ≤ 700000) := ⟨by have := HN.out; omega, heavyS_each (by omega)⟩
          have q2 : decide ((700000 : Int) < z) = false := decide_eq_false (by omega)
          clear h5 hz hz1 e1 h6
          go_wp2
          go_ret
          exact ⟨⟨_, rfl, fun _ => HR.out, HBE.out⟩⟩
        · have q2 : decide ((700000 : Int) < z) = true := decide_eq_true (by omega)
          clear h5 hz hz1 e1 h6
          go_wp2
          go_ret
          exact ⟨⟨true, by simp, fun h => (by cases h), HBE.out⟩⟩
      · have q1 : decide ((200 : Int) < (k : Int)) = true := decide_eq_true (by omega)
        clear h5 hz e1
        go_wp2
        go_ret
        exact ⟨⟨true, by simp, fun h => (by cases h), HBE.out⟩⟩
end Go.Proofs.YtiakfdhbbkpfhaaGreatDoor
namespace Go.Proofs.YtiakfdhbbkpfhaaGreatDoor
open Go.RowKit Go.WideShapes Rm

theorem turnIs_none {count : Int} {data : List Nat} {ws : Puts} {r : Option (DirV × Int)} {n m : Int} {l : List CV} {A : Acts} (h : TurnIs count data ws r n l m A) (h0 : m ≠ 0) : A = [] := by
  cases h <;> first | rfl | exact absurd rfl h0
set_option maxRecDepth 20000 in
set_option maxHeartbeats 4000000 in
theorem law_done (v : Value) (count : Int) (data : List Nat) (ws : Puts) (lq : Option Addr) (ln lc : Nat) (l : List CV) (w : World) (hL : Laid w) (hd : DiskIn w v count data ws) (hl : ChgIn w lq ln lc l) (hvs : ∀ y ∈ l, (y.val.size : Int) ≤ 9223372036854775807) :
    Calls Tryz.prog 5 #[v, .slice lq ln lc] w fun e w' => e = .returned (.bool true) ∧ Below w.heap.size w w' := by
  obtain ⟨p, c, q, m, rfl, _⟩ := hd.parts
  have HL : Hid (Laid w) := hL
  have HD : Hid (DiskIn w (.agg #[.int .i64 count, .slice p data.length c, .slice q ws.length m]) count data ws) := hd
  have HCH : Hid (ChgIn w lq ln lc l) := hl
  have HVS : Hid (∀ y ∈ l, (y.val.size : Int) ≤ 9223372036854775807) := hvs
  obtain ⟨r, n, hm⟩ := mountIs_ex count data ws
  have HM : Hid (MountIs count data ws r n) := hm
  obtain ⟨dl, hdl⟩ : ∃ k, data.length = k := ⟨_, rfl⟩
  obtain ⟨wl, hwl⟩ : ∃ k, ws.length = k := ⟨_, rfl⟩
  rw [hdl, hwl] at HD ⊢
  obtain ⟨w0, hw0⟩ : ∃ w0, w.alloc (.cells #[.int .i64 count, .slice p dl c, .slice q wl m] 25) = w0 := ⟨_, rfl⟩
  have HB0 : Hid (Below w.heap.size w w0) := by show Below _ _ _; rw [← hw0]; exact below_alloc _ _
  have HX0 : Hid (w0.heap[w.heap.size]? = some (.cells #[.int .i64 count, .slice p dl c, .slice q wl m] 25 (0, 0))) := by show _ = _; rw [← hw0]; exact heap_alloc_new _ _
  have hal := alive_t w0 (HL.out.below HB0.out)
  clear hd hL hm hdl hwl hl hvs
  go_enter Tryz.func5, Tryz.ntmps5
  go_upto_region 1 with fail
  (try rw [hw0])
  clear hw0
  go_wp2_with fail
  refine hal.mono ?_
  rintro e w1 ⟨rfl, hb1⟩
  have HB1 : Hid (Below w.heap.size w w1) := below_bt HB0.out hb1
  have HX1 : Hid (w1.heap[w.heap.size]? = some (.cells #[.int .i64 count, .slice p dl c, .slice q wl m] 25 (0, 0))) := (hb1.block _ (lt_heap HX0.out)).trans HX0.out
  obtain ⟨d0, d1, d2⟩ := three_cells HX1.out
  clear hal hb1
  have hlg := large4_any _ count data ws w1 (HD.out.below HB1.out)
  go_wp2_with fail
  refine hlg.mono ?_
  rintro e w2 ⟨rfl, hb2⟩
  have HB2 : Hid (Below w.heap.size w w2) := below_bt HB1.out hb2
  have HX2 : Hid (w2.heap[w.heap.size]? = some (.cells #[.int .i64 count, .slice p dl c, .slice q wl m] 25 (0, 0))) := (hb2.block _ (lt_heap HX1.out)).trans HX1.out
  clear hlg hb2 d0 d1 d2
  by_cases hlarge : largeL count data ws
  · have e1 : decide (largeL count data ws) = true := by simpa using hlarge
    rw [e1]
    clear e1 hlarge
    go_wp2
    go_ret
    exact ⟨rfl, HB2.out⟩
  · have e1 : decide (largeL count data ws) = false := by simpa using hlarge
    rw [e1]
    have HNL : Hid (¬ largeL count data ws) := hlarge
    clear hlarge e1
    have hhv := heavy_any lq ln lc l w2 HCH.out.len (HCH.out.below HB2.out).lies HCH.out.fits HVS.out
    go_wp2_with fail
    refine hhv.mono ?_
    rintro e w3 ⟨hr, rfl, hfew, hb3⟩
    have HB3 : Hid (Below w.heap.size w w3) := below_bt HB2.out hb3
    have HX3 : Hid (w3.heap[w.heap.size]? = some (.cells #[.int .i64 count, .slice p dl c, .slice q wl m] 25 (0, 0))) := (hb3.block _ (lt_heap HX2.out)).trans HX2.out
    clear hhv hb3
    cases hr with
    | true =>
      clear hfew
      go_wp2
      go_ret
      exact ⟨rfl, HB3.out⟩
    | false =>
      have HFW : Hid (l.length ≤ 200 ∧ ∀ y ∈ l, y.val.size ≤ 700000) := hfew rfl
      obtain ⟨d0, d1, d2⟩ := three_cells HX3.out
      have hT := Turn_any _ count data ws lq ln lc l w3 (HL.out.below HB3.out) (HD.out.below HB3.out) r n HM.out (HCH.out.below HB3.out) (fun y hy => by have := HFW.out.2 y hy; omega)
      clear hfew
      go_wp2_with fail
      refine hT.mono ?_
      rintro e w4 ⟨mm, A, av, L, hS, rfl, hown, hLA, hb4⟩
      have HS : Hid (TurnIs count data ws r n l mm A) := hS
      obtain ⟨aq, am, rfl, _, _, _⟩ := hown.form
      have HB4 : Hid (Below w.heap.size w w4) := below_bt HB3.out hb4
      have HX4 : Hid (w4.heap[w.heap.size]? = some (.cells #[.int .i64 count, .slice p dl c, .slice q wl m] 25 (0, 0))) := (hb4.block _ (lt_heap HX3.out)).trans HX3.out
      have hlies := hown.lies
      have HLI : Hid (L.length = A.length ∧ ActsIn w4 aq A ∧ L.length ≤ am ∧ am ≤ maxLen) := ⟨by rw [← hLA, List.length_map], by rw [← hLA]; exact hlies.2.1, hlies.2.2.1, hlies.2.2.2⟩
      obtain ⟨al, hal2⟩ : ∃ k, L.length = k := ⟨_, rfl⟩
      rw [hal2] at HLI ⊢
      clear hT hb4 hown hLA hS hlies d0 d1 d2 hal2
      by_cases hm0 : mm = 0
      · subst hm0
        obtain ⟨D, y, s, hdo, hokD, hmy, hall⟩ := turn_doneM HD.out HM.out HS.out HNL.out
        have hdo2 := do_all _ count data ws w4 (HD.out.below HB4.out) aq al am A HLI.out.1 HLI.out.2.1 (by have := HLI.out.1; have := HLI.out.2.2; unfold maxLen at this; omega) _ hdo
        obtain ⟨d0, d1, d2⟩ := three_cells HX4.out
        have HALL : Hid (HasAll D [] (some (y, s)) 0 (map2L l (startC data ws r n))) := hall
        have HMY : Hid (MountIs count D [] (some (y, s)) 0) := hmy
        clear hdo hokD hmy hall
        simp only [resE, resC, resD, resW] at hdo2
        go_wp2_with fail
        refine hdo2.mono ?_
        rintro e w5 ⟨⟨v5, rfl, hF5⟩, hb5⟩
        have hI5 := hF5.self
        obtain ⟨p5, c5, q5, m5, rfl, _⟩ := hI5.parts
        obtain ⟨D5, hD5⟩ : ∃ k, D.length = k := ⟨_, rfl⟩
        rw [hD5] at hF5 ⊢
        rw [List.length_nil] at hF5 ⊢
        have HB6 : Hid (Below w.heap.size w (w5.alloc (.cells #[.int .i64 count, .slice p5 D5 c5, .slice q5 0 m5] 25))) := below_bt (below_bt HB4.out hb5) (below_alloc _ _)
        have HX6 : Hid ((w5.alloc (.cells #[.int .i64 count, .slice p5 D5 c5, .slice q5 0 m5] 25)).heap[w.heap.size]? = some (.cells #[.int .i64 count, .slice p dl c, .slice q wl m] 25 (0, 0))) := ((below_bt hb5 (below_alloc _ _)).block _ (lt_heap HX4.out)).trans HX4.out
        have HZ6 : Hid ((w5.alloc (.cells #[.int .i64 count, .slice p5 D5 c5, .slice q5 0 m5] 25)).heap[w5.heap.size]? = some (.cells #[.int .i64 count, .slice p5 D5 c5, .slice q5 0 m5] 25 (0, 0))) := heap_alloc_new _ _
        have HF6 : Hid (DiskIn (w5.alloc (.cells #[.int .i64 count, .slice p5 D5 c5, .slice q5 0 m5] 25)) (.agg #[.int .i64 count, .slice p5 D5 c5, .slice q5 0 m5]) count D []) := hF5.below (below_alloc _ _)
        clear hdo2 hF5 hb5 hI5 hD5 d0 d1 d2
        obtain ⟨d0, d1, d2⟩ := three_cells HX6.out
        obtain ⟨f0, f1, f2⟩ := three_cells HZ6.out
        have hho := holds_any _ _ count count D data [] ws lq ln lc l (w5.alloc (.cells #[.int .i64 count, .slice p5 D5 c5, .slice q5 0 m5] 25)) (HL.out.below HB6.out) HF6.out (HD.out.below HB6.out) _ 0 HMY.out r n HM.out (HCH.out.below HB6.out) (by have := HFW.out.1; have := HCH.out.len; omega)
        go_wp2_with fail
        refine hho.mono ?_
        rintro e w7 ⟨hb, rfl, hyes, hb7⟩
        obtain rfl : hb = true := hyes HALL.out
        have HB7 : Hid (Below w.heap.size w w7) := below_bt HB6.out hb7
        clear hho hb7 hyes d0 d1 d2 f0 f1 f2
        go_wp2
        go_ret
        exact ⟨rfl, HB7.out⟩
      · have hA := turnIs_none HS.out hm0
        obtain rfl : al = 0 := by have := HLI.out.1; rw [hA] at this; exact this
        have hmb : (mm == 0) = false := by simpa using hm0
        have hmc : (mm != 0) = true := by simpa using hm0
        clear hm0 hA
        go_wp2
        go_ret
        exact ⟨rfl, HB4.out⟩
end Go.Proofs.YtiakfdhbbkpfhaaGreatDoor
