/-
  What the statements call: turned, with the disk that it answers beside an error.
-/
import Derived.Test.YtkgmhmhphgaclabGreatDoorJ36
import Derived.Test.YtkgmhmhphgaclabGreatDoorJ33
import Derived.Test.YtkgmhmhphgaclabGreatDoorJ12
import Derived.Test.YtkgmhmhphgaclabGreatDoorJ17
import Derived.Test.YtkgmhmhphgaclabGreatDoorJ32
import Derived.Test.YtkgmhmhphgaclabGreatDoorJ35
namespace Go.Proofs.YtkgmhmhphgaclabGreatDoor
open Go.RowKit Go.WideShapes Rm

theorem formatD4 (a b : Addr) (ev old : Value) (n : Int) (u : FrameMode) (w : World) (hg : ErrT w) (hv : ErrV ev n) (ha : w.cell? a = some ev) (hb : w.cell? b = some old) (hf : w.frozen? b = false) :
    CallsD Tryz.prog 41 #[.pointer (some a), .pointer (some b)] u w fun e u' w' => u' = u ∧ e = .returned (.tuple #[]) ∧ ∃ w1, w' = w1.setCell b (.int .i64 n) ∧ Below w.heap.size w w1 := by
  have hn := number_v ev n hv w hg
  have hlt := World.block_lt_of_cell? _ _ hb
  go_enter_d Tryz.func41, Tryz.ntmps41
  go_wp2_with fail
  refine hn.mono ?_
  rintro e w1 ⟨rfl, hb1⟩
  have hb2 : w1.cell? b = some old := (hb1.cell hlt).trans hb
  have hf2 : w1.frozen? b = false := (hb1.frozen hlt).trans hf
  go_wp2
  go_end0
  exact ⟨rfl, w1, rfl, hb1⟩
theorem DiskF.up {base base' : Nat} {w w' : World} {v : Value} {count : Int} {data : List Nat} {ws : Puts} (h : DiskF base w v count data ws) (hb : base' ≤ base) (hs : w.heap.size ≤ w'.heap.size) (hk : ∀ k : Nat, base ≤ k → k < w.heap.size → w'.heap[k]? = w.heap[k]?) : DiskF base' w' v count data ws :=
  fun w2 h2 => h w2 (fun k k1 k2 => (h2 k (by omega) (by omega)).trans (hk k k1 k2))
/-- The cells of the results, laid down twice. -/
def fmtW (w1 : World) (H : Nat) (a b c : Value) : World := (((((((w1.setCell ⟨H, 0, none⟩ a).setCell ⟨H, 1, none⟩ b).setCell ⟨H, 2, none⟩ c).setCell ⟨H + 1 + 1, 0, none⟩ .nilIface).setCell ⟨H, 0, none⟩ a).setCell ⟨H, 1, none⟩ b).setCell ⟨H, 2, none⟩ c).setCell ⟨H + 1, 0, none⟩ (.int .i64 0)
section
variable {w1 : World} {H : Nat} {a b c x0 x1 x2 e r : Value}
theorem fmtW_err (h : w1.cell? ⟨H + 1 + 1, 0, none⟩ = some r) : (fmtW w1 H a b c).cell? ⟨H + 1 + 1, 0, none⟩ = some .nilIface := by
  unfold fmtW
  rw [o1 _ _ (ab_ne (by omega)), o1 _ _ (ab_ne (by omega)), o1 _ _ (ab_ne (by omega)), o1 _ _ (ab_ne (by omega))]
  refine o2 (u := r) ?_
  rw [o1 _ _ (ab_ne (by omega)), o1 _ _ (ab_ne (by omega)), o1 _ _ (ab_ne (by omega))]
  exact h
theorem fmtW_num (h : w1.cell? ⟨H + 1, 0, none⟩ = some e) : (fmtW w1 H a b c).cell? ⟨H + 1, 0, none⟩ = some (.int .i64 0) := by
  unfold fmtW
  refine o2 (u := e) ?_
  rw [o1 _ _ (ab_ne (by omega)), o1 _ _ (ab_ne (by omega)), o1 _ _ (ab_ne (by omega)), o1 _ _ (ab_ne (by omega)), o1 _ _ (ab_ne (by omega)), o1 _ _ (ab_ne (by omega)), o1 _ _ (ab_ne (by omega))]
  exact h
theorem fmtW_fr (h : w1.frozen? ⟨H + 1, 0, none⟩ = false) : (fmtW w1 H a b c).frozen? ⟨H + 1, 0, none⟩ = false := by
  unfold fmtW
  simpa using h
theorem fmtW_cells (h0 : w1.cell? ⟨H, 0, none⟩ = some x0) (h1 : w1.cell? ⟨H, 1, none⟩ = some x1) (h2 : w1.cell? ⟨H, 2, none⟩ = some x2) : (fmtW w1 H a b c).cell? ⟨H, 0, none⟩ = some a ∧ (fmtW w1 H a b c).cell? ⟨H, 1, none⟩ = some b ∧ (fmtW w1 H a b c).cell? ⟨H, 2, none⟩ = some c := by
  unfold fmtW
  refine ⟨?_, ?_, ?_⟩
  · rw [o1 _ _ (ab_ne (by omega)), o1 _ _ (ij_ne (by decide)), o1 _ _ (ij_ne (by decide))]
    refine o2 (u := a) ?_
    rw [o1 _ _ (ab_ne (by omega)), o1 _ _ (ij_ne (by decide)), o1 _ _ (ij_ne (by decide))]
    exact o2 h0
  · rw [o1 _ _ (ab_ne (by omega)), o1 _ _ (ij_ne (by decide))]
    refine o2 (u := b) ?_
    rw [o1 _ _ (ij_ne (by decide)), o1 _ _ (ab_ne (by omega)), o1 _ _ (ij_ne (by decide))]
    refine o2 (u := x1) ?_
    rw [o1 _ _ (ij_ne (by decide))]
    exact h1
  · rw [o1 _ _ (ab_ne (by omega))]
    refine o2 (u := c) ?_
    rw [o1 _ _ (ij_ne (by decide)), o1 _ _ (ij_ne (by decide)), o1 _ _ (ab_ne (by omega))]
    refine o2 (u := x2) ?_
    rw [o1 _ _ (ij_ne (by decide)), o1 _ _ (ij_ne (by decide))]
    exact h2
theorem fmtW_other {k : Nat} (h0 : k ≠ H) (h1 : k ≠ H + 1) (h2 : k ≠ H + 1 + 1) : (fmtW w1 H a b c).heap[k]? = w1.heap[k]? := by
  unfold fmtW
  rw [set_keep h1, set_keep h0, set_keep h0, set_keep h0, set_keep h2, set_keep h0, set_keep h0, set_keep h0]
theorem fmtW_below {w : World} (h : Below H w w1) : Below H w (fmtW w1 H a b c) := by
  unfold fmtW
  exact below_setR _ _ (below_setR _ _ (below_setR _ _ (below_setR _ _ (below_setR _ _ (below_setR _ _ (below_setR _ _ (below_setR _ _ h (Nat.le_refl _)) (Nat.le_refl _)) (Nat.le_refl _)) (by omega)) (Nat.le_refl _)) (Nat.le_refl _)) (Nat.le_refl _)) (by omega)
theorem fmtW_size : (fmtW w1 H a b c).heap.size = w1.heap.size := by unfold fmtW; simp
end
/-- What Format leaves in memory. -/
structure FmtN (w : World) (n : Nat) (e : Ending) (w' : World) : Prop where
  ex : ∃ v D, e = .returned (.tuple #[v, .int .i64 0]) ∧ FmtIs n D ∧ DiskF w.heap.size w' v (n : Int) D [] ∧ Below w.heap.size w w'
set_option maxRecDepth 8000 in
set_option maxHeartbeats 4000000 in
theorem Format_ok (n : Nat) (w : World) (hL : Laid w) (h1 : 96 ≤ n) (h2 : n ≤ 4096) :
    Calls Tryz.prog 18 #[.int .i64 (n : Int)] w fun e w' => FmtN w n e w' := by
  have hb3 : Below w.heap.size w (((w.alloc (.cells #[.int .i64 0, .slice none 0 0, .slice none 0 0] 25)).alloc (.cells #[.int .i64 0] 31)).alloc (.cells #[.nilIface] 63)) := ((below_alloc w _).alloc (by simp) _).alloc (by simp; omega) _
  have hft := format_ok n (((w.alloc (.cells #[.int .i64 0, .slice none 0 0, .slice none 0 0] 25)).alloc (.cells #[.int .i64 0] 31)).alloc (.cells #[.nilIface] 63)) h1 h2
  have HG : Hid (ErrT w) := hL.err
  have hmf : ∀ (fn : Fn) (first cap : Array Value) (w : World), (Instr.makeFunc fn first cap).run Tryz.prog w = .ok (.func fn first cap) w := fun _ _ _ _ => rfl
  have HDK : Hid ((((w.alloc (.cells #[.int .i64 0, .slice none 0 0, .slice none 0 0] 25)).alloc (.cells #[.int .i64 0] 31)).alloc (.cells #[.nilIface] 63)).heap[w.heap.size]? = some (.cells #[.int .i64 0, .slice none 0 0, .slice none 0 0] 25 (0, 0))) := by
    have h1 := heap_alloc_new w (.cells #[.int .i64 0, .slice none 0 0, .slice none 0 0] 25)
    have h2 := ((below_alloc (w.alloc (.cells #[.int .i64 0, .slice none 0 0, .slice none 0 0] 25)) (.cells #[.int .i64 0] 31)).block _ (by simp)).trans h1
    exact ((below_alloc ((w.alloc (.cells #[.int .i64 0, .slice none 0 0, .slice none 0 0] 25)).alloc (.cells #[.int .i64 0] 31)) (.cells #[.nilIface] 63)).block _ (by simp; omega)).trans h2
  clear hL h1 h2
  go_enter_defers Tryz.func18, Tryz.ntmps18
  go_wp2_with fail
  refine hft.mono ?_
  rintro e w1 ⟨v, D, rfl, hD, hF, hbb⟩
  have hs1 := hbb.size
  simp at hs1
  obtain ⟨ce, cr, fe, fr⟩ := vars2 (a := .int .i64 0) (b := .nilIface) (s := 31) (t := 63) (w.alloc (.cells #[.int .i64 0, .slice none 0 0, .slice none 0 0] 25)) w1 hbb
  simp only [heap_size_alloc] at ce cr fe fr
  obtain ⟨⟨d0, d1, d2⟩, g0, g1, g2⟩ := cells3f ((hbb.block _ (lt_heap HDK.out)).trans HDK.out)
  have HB : Hid (Below w.heap.size w w1) := hb3.trans (hbb.mono hb3.size)
  simp only [heap_size_alloc] at hF
  have HF : Hid (FmtIs n D ∧ DiskF (w.heap.size + 1 + 1 + 1) w1 v (n : Int) D []) := ⟨hD, hF⟩
  obtain ⟨p, c, q, m, rfl, _⟩ := hF.self.parts
  simp only [List.length_nil] at HF ⊢
  obtain ⟨dl, hdl⟩ : ∃ k, D.length = k := ⟨_, rfl⟩
  rw [hdl] at HF ⊢
  clear hft hb3 hbb hD hF hdl
  go_wp2
  have g1 := fmtW_err (a := .int .i64 (n : Int)) (b := .slice p dl c) (c := .slice q 0 m) cr
  have g2 := fmtW_num (a := .int .i64 (n : Int)) (b := .slice p dl c) (c := .slice q 0 m) ce
  have g3 := fmtW_fr (a := .int .i64 (n : Int)) (b := .slice p dl c) (c := .slice q 0 m) fe
  have g4 := fmtW_cells (a := .int .i64 (n : Int)) (b := .slice p dl c) (c := .slice q 0 m) d0 d1 d2
  have hbW : Below w.heap.size w (fmtW w1 w.heap.size (.int .i64 (n : Int)) (.slice p dl c) (.slice q 0 m)) := fmtW_below HB.out
  have hoW : ∀ k, w.heap.size + 1 + 1 + 1 ≤ k → (fmtW w1 w.heap.size (.int .i64 (n : Int)) (.slice p dl c) (.slice q 0 m)).heap[k]? = w1.heap[k]? := fun k hk => fmtW_other (by omega) (by omega) (by omega)
  have hsW : (fmtW w1 w.heap.size (.int .i64 (n : Int)) (.slice p dl c) (.slice q 0 m)).heap.size = w1.heap.size := fmtW_size
  show bodyPostD _ _ _ _ _ (fmtW w1 w.heap.size (.int .i64 (n : Int)) (.slice p dl c) (.slice q 0 m))
  generalize fmtW w1 w.heap.size (.int .i64 (n : Int)) (.slice p dl c) (.slice q 0 m) = W at *
  refine leaves_cons (f := 41) (args := #[.pointer (some ⟨w.heap.size + 1 + 1, 0, none⟩), .pointer (some ⟨w.heap.size + 1, 0, none⟩)]) (by simp) (by simp [go_sem]) ?_
  refine (formatD4 ⟨w.heap.size + 1 + 1, 0, none⟩ ⟨w.heap.size + 1, 0, none⟩ .nilIface (.int .i64 0) 0 .returning _ (HG.out.below hbW) (.inl ⟨rfl, rfl⟩) g1 g2 g3).mono ?_
  rintro e u' w'' ⟨rfl, rfl, w3, rfl, hb3⟩
  have hltE := World.block_lt_of_cell? _ _ g2
  have hltD := World.block_lt_of_cell? _ _ g4.1
  have k1 : (w3.setCell ⟨w.heap.size + 1, 0, none⟩ (.int .i64 0)).cell? ⟨w.heap.size + 1, 0, none⟩ = some (.int .i64 0) := World.cell?_setCell_same _ _ _ ((hb3.cell hltE).trans g2)
  have k2 : Below w.heap.size w (w3.setCell ⟨w.heap.size + 1, 0, none⟩ (.int .i64 0)) := below_setR _ _ (hbW.trans (hb3.mono hbW.size)) (by omega)
  have m0 : (w3.setCell ⟨w.heap.size + 1, 0, none⟩ (.int .i64 0)).cell? ⟨w.heap.size, 0, none⟩ = some (.int .i64 (n : Int)) := (o1 _ _ (ab_ne (by omega))).trans ((hb3.cell hltD).trans g4.1)
  have m1 : (w3.setCell ⟨w.heap.size + 1, 0, none⟩ (.int .i64 0)).cell? ⟨w.heap.size, 1, none⟩ = some (.slice p dl c) := (o1 _ _ (ab_ne (by omega))).trans ((hb3.cell (World.block_lt_of_cell? _ _ g4.2.1)).trans g4.2.1)
  have m2 : (w3.setCell ⟨w.heap.size + 1, 0, none⟩ (.int .i64 0)).cell? ⟨w.heap.size, 2, none⟩ = some (.slice q 0 m) := (o1 _ _ (ab_ne (by omega))).trans ((hb3.cell (World.block_lt_of_cell? _ _ g4.2.2)).trans g4.2.2)
  have k3 : DiskF w.heap.size (w3.setCell ⟨w.heap.size + 1, 0, none⟩ (.int .i64 0)) (.agg #[.int .i64 (n : Int), .slice p dl c, .slice q 0 m]) (n : Int) D [] := HF.out.2.up (by omega) (by have := hb3.size; simp; omega) (fun k k1 k2 => (set_keep (by omega)).trans ((hb3.block k (by omega)).trans (hoW k k1)))
  generalize w3.setCell ⟨w.heap.size + 1, 0, none⟩ (.int .i64 0) = w4 at *
  simp [Leaves, settle, results, Tryz.results18, go_sem, k1, m0, m1, m2]
  exact ⟨⟨_, D, rfl, HF.out.1, k3, k2⟩⟩
end Go.Proofs.YtkgmhmhphgaclabGreatDoor
namespace Go.Proofs.YtkgmhmhphgaclabGreatDoor
open Go.RowKit Go.WideShapes Rm

theorem chg_under (w : World) (cs : Array Value) (t : TypeId) (o : Obj) : ((w.alloc (.cells cs t)).alloc o).heap[w.heap.size]? = some (.cells cs t (0, 0)) := ((below_alloc (w.alloc (.cells cs t)) o).block _ (by simp)).trans (heap_alloc_new w _)
theorem chg_over (w : World) (cs : Array Value) (t : TypeId) (o : Obj) : ((w.alloc o).alloc (.cells cs t)).heap[w.heap.size + 1]? = some (.cells cs t (0, 0)) := by
  have h := heap_alloc_new (w.alloc o) (.cells cs t)
  simpa using h
theorem a_beq : (aName == aName) = true := by decide +kernel
theorem want_a (n : Nat) : wantN ltB [] ([aFile n].map toV) = [(aName, numsOf (textS n))] := rfl
/-- Behind the turn Get tells the file's bytes. -/
theorem alive_get {D D2 : List Nat} {y : DirV} {s : Int} (n : Nat) (h : filesD D2 [] y = wantN ltB (filesD D [] emptyD) ([aFile n].map toV)) : getN D2 [] (some (y, s)) 0 aName = (0, numsOf (textS n)) := by
  have e : filesD D [] emptyD = [] := rfl
  rw [e, want_a] at h
  unfold filesD at h
  obtain ⟨f, hf⟩ : ∃ f, y.files = [f] := by
    cases hy : y.files with
    | nil => rw [hy] at h; cases h
    | cons f l =>
      cases l with
      | nil => exact ⟨f, rfl⟩
      | cons g l => rw [hy] at h; simp at h
  rw [hf] at h
  simp only [List.map_cons, List.map_nil, List.cons.injEq, Prod.mk.injEq, and_true] at h
  unfold getN
  dsimp only
  rw [if_pos a_name]
  have hfd : findN y.files aName = some 0 := by
    unfold findN
    rw [hf]
    simp [h.1, a_beq]
  rw [hfd]
  simp only
  rw [hf]
  exact congrArg (Prod.mk 0) h.2
theorem chg_a {w : World} {g : Nat} (n : Nat) (h : w.heap[g]? = some (.cells #[.string aName, .string (textS n), .bool false] 52 (0, 0))) : ChgIn w (some ⟨g, 0, none⟩) 1 1 [aFile n] := by
  obtain ⟨c0, c1, c2⟩ := three_cells h
  refine ⟨fun _ => ⟨g, 0, rfl, fun i hi => ?_⟩, rfl, Nat.le_refl _, by decide, fun y hy => ?_⟩
  · obtain rfl : i = 0 := by simp at hi; exact hi
    exact ⟨c0, c1, c2⟩
  · rw [List.mem_singleton.1 hy]
    show (aName.size : Int) ≤ _
    decide
/-- What turned answers in alive. -/
structure TdA (w : World) (n : Nat) (e : Ending) (w' : World) : Prop where
  ex : ∃ q1 n1 m1 q2 n2 m2 D2 y s, e = .returned (.tuple #[.agg #[.int .i64 100, .slice q1 n1 m1, .slice q2 n2 m2], .int .i64 0]) ∧ Below w.heap.size w w' ∧ DiskF w.heap.size w' (.agg #[.int .i64 100, .slice q1 n1 m1, .slice q2 n2 m2]) 100 D2 [] ∧ MountIs 100 D2 [] (some (y, s)) 0 ∧ getN D2 [] (some (y, s)) 0 aName = (0, numsOf (textS n))
theorem turned_a (v : Value) (D : List Nat) (g : Nat) (w : World) (hL : Laid w) (hD : FmtIs 100 D) (hd : DiskIn w v 100 D []) (h : w.heap[g]? = some (.cells #[.string aName, .string (textS 130), .bool false] 52 (0, 0))) :
    Calls Tryz.prog 9 #[v, .slice (some ⟨g, 0, none⟩) 1 1] w fun e w' => TdA w 130 e w' := by
  have hm : MountIs 100 D [] (some (emptyD, 0)) 0 := fmt_mount (n := 100) (by decide) (by decide) hD
  have hok0 : Okay 100 D [] := fmt_okay (n := 100) (by decide) (by decide) hD
  refine (turned_any v 100 D [] (some ⟨g, 0, none⟩) 1 1 [aFile 130] w hL hd _ 0 hm (chg_a 130 h) (fun y hy => ?_)).mono ?_
  · rw [List.mem_singleton.1 hy]
    show ((textS 130).size : Int) ≤ _
    rw [textS_size]
    decide
  · rintro e w' ⟨m, A, c0, q1, n1, m1, q2, n2, m2, E, hS, rfl, hb, hc⟩
    obtain ⟨hm0, hAl⟩ := alive_turn hD hS
    subst hm0
    rcases hc with ⟨h0, _⟩ | ⟨_, hE, hdi⟩
    · exact absurd rfl h0
    · obtain ⟨x, y, at_, other, fs, hr, hok⟩ := turnIs_ok hm hS
      obtain ⟨D2, e1, ok2, m2', f2⟩ := turn_result hok (by simp; omega)
      have hdo : doAny 100 D [] A = .ok (D2, []) := by rw [doAny_ok _ hok0]; exact e1
      rw [hdo] at hE hdi
      simp only [resE, resC, resD, resW] at hE hdi
      subst hE
      have hc0 : c0 = 100 := by
        obtain ⟨_, _, _, _, e, _⟩ := hdi.self.parts
        simp only [Value.agg.injEq] at e
        have := congrArg (fun a : Array Value => a[0]?) e
        simpa using this
      subst hc0
      have hx : x = emptyD := by
        simp only [Option.some.injEq, Prod.mk.injEq] at hr
        exact hr.1.symm
      subst hx
      exact ⟨⟨q1, n1, m1, q2, n2, m2, D2, y, _, rfl, hb, hdi, m2', alive_get 130 f2⟩⟩
/-- A new box of a disk, still nought. -/
def ZX (w : World) (g : Nat) : Prop := w.heap[g]? = some (.cells #[.int .i64 0, .slice none 0 0, .slice none 0 0] 25 (0, 0))
structure ZF (w : World) (g : Nat) : Prop where
  a : ZX w g
/-- The box lies under base. -/
structure ZH (w : World) (g base : Nat) : Prop where
  a : ZF w g
  b : g < base
theorem zx_new {G : Prop} {w w' : World} (h : Below (w.alloc (.cells #[.int .i64 0, .slice none 0 0, .slice none 0 0] 25)).heap.size (w.alloc (.cells #[.int .i64 0, .slice none 0 0, .slice none 0 0] 25)) w' → ZF w' w.heap.size → G) : Below (w.alloc (.cells #[.int .i64 0, .slice none 0 0, .slice none 0 0] 25)).heap.size (w.alloc (.cells #[.int .i64 0, .slice none 0 0, .slice none 0 0] 25)) w' → G :=
  fun hb => h hb ⟨(hb.block _ (by simp)).trans (heap_alloc_new w _)⟩
theorem zx_newD {G : Prop} {w w' : World} (h : Below (w.alloc (.cells #[.int .i64 0, .slice none 0 0, .slice none 0 0] 25)).drew.heap.size (w.alloc (.cells #[.int .i64 0, .slice none 0 0, .slice none 0 0] 25)).drew w' → ZF w' w.heap.size → G) : Below (w.alloc (.cells #[.int .i64 0, .slice none 0 0, .slice none 0 0] 25)).drew.heap.size (w.alloc (.cells #[.int .i64 0, .slice none 0 0, .slice none 0 0] 25)).drew w' → G :=
  fun hb => h hb ⟨(((below_drC hb)).block _ (by simp)).trans (heap_alloc_new w _)⟩
theorem zx_newC {G : Prop} {w w' : World} {cs : Array Value} {t : TypeId} (h : Below ((w.alloc (.cells cs t)).alloc (.cells #[.int .i64 0, .slice none 0 0, .slice none 0 0] 25)).heap.size ((w.alloc (.cells cs t)).alloc (.cells #[.int .i64 0, .slice none 0 0, .slice none 0 0] 25)) w' → ZH w' (w.heap.size + 1) ((w.alloc (.cells cs t)).alloc (.cells #[.int .i64 0, .slice none 0 0, .slice none 0 0] 25)).heap.size → G) : Below ((w.alloc (.cells cs t)).alloc (.cells #[.int .i64 0, .slice none 0 0, .slice none 0 0] 25)).heap.size ((w.alloc (.cells cs t)).alloc (.cells #[.int .i64 0, .slice none 0 0, .slice none 0 0] 25)) w' → G :=
  fun hb => h hb ⟨by
    have h1 := heap_alloc_new (w.alloc (.cells cs t)) (.cells #[.int .i64 0, .slice none 0 0, .slice none 0 0] 25)
    have h2 : ((w.alloc (.cells cs t)).alloc (.cells #[.int .i64 0, .slice none 0 0, .slice none 0 0] 25)).heap[w.heap.size + 1]? = some (.cells #[.int .i64 0, .slice none 0 0, .slice none 0 0] 25 (0, 0)) := by simpa using h1
    exact ⟨(hb.block _ (lt_heap h2)).trans h2⟩, by rw [World.size_alloc, World.size_alloc]; exact Nat.lt_succ_self _⟩
theorem zx_under {G : Prop} {w w' : World} {cs : Array Value} {t : TypeId} (h : Below ((w.alloc (.cells #[.int .i64 0, .slice none 0 0, .slice none 0 0] 25)).alloc (.cells cs t)).heap.size ((w.alloc (.cells #[.int .i64 0, .slice none 0 0, .slice none 0 0] 25)).alloc (.cells cs t)) w' → ZH w' w.heap.size ((w.alloc (.cells #[.int .i64 0, .slice none 0 0, .slice none 0 0] 25)).alloc (.cells cs t)).heap.size → G) : Below ((w.alloc (.cells #[.int .i64 0, .slice none 0 0, .slice none 0 0] 25)).alloc (.cells cs t)).heap.size ((w.alloc (.cells #[.int .i64 0, .slice none 0 0, .slice none 0 0] 25)).alloc (.cells cs t)) w' → G :=
  fun hb => h hb ⟨by
    have h2 := chg_under w #[.int .i64 0, .slice none 0 0, .slice none 0 0] 25 (.cells cs t)
    exact ⟨(hb.block _ (lt_heap h2)).trans h2⟩, by rw [World.size_alloc, World.size_alloc]; omega⟩
theorem ZF.next {w w' : World} {g : Nat} (h : ZF w g) (hb : Below w.heap.size w w') : ZF w' g := ⟨(hb.block _ (lt_heap h.a)).trans h.a⟩
theorem ZF.cells {w : World} {g : Nat} (h : ZF w g) : (w.cell? ⟨g, 0, none⟩ = some (.int .i64 0) ∧ w.cell? ⟨g, 1, none⟩ = some (.slice none 0 0) ∧ w.cell? ⟨g, 2, none⟩ = some (.slice none 0 0)) ∧ w.frozen? ⟨g, 0, none⟩ = false ∧ w.frozen? ⟨g, 1, none⟩ = false ∧ w.frozen? ⟨g, 2, none⟩ = false := cells3f h.a
theorem zx_no {G P : Prop} (h : P → True → G) : P → G := fun p => h p trivial
theorem zx_keep {G : Prop} {w w' : World} {g : Nat} (h : Below w.heap.size w w' → ZF w' g → G) : ZF w g → Below w.heap.size w w' → G := fun z b => h b (z.next b)
theorem zx_keepC {G : Prop} {w w' : World} {g : Nat} {o : Obj} (h : Below (w.alloc o).heap.size (w.alloc o) w' → ZH w' g (w.alloc o).heap.size → G) : ZF w g → Below (w.alloc o).heap.size (w.alloc o) w' → G := fun z b => h b ⟨z.next (below_bt (below_alloc _ _) b), by have := lt_heap z.a; rw [World.size_alloc]; omega⟩
theorem below3 {base g : Nat} {w0 w : World} (h : Below base w0 w) (hg : base ≤ g) (a b c : Value) : Below base w0 (((w.setCell ⟨g, 0, none⟩ a).setCell ⟨g, 1, none⟩ b).setCell ⟨g, 2, none⟩ c) := below_setR _ _ (below_setR _ _ (below_setR _ _ h hg) hg) hg
theorem zx_drop {G P : Prop} (h : P → G) : True → P → G := fun _ p => h p
set_option maxRecDepth 8000 in
set_option maxHeartbeats 12000000 in
theorem alive_t (w : World) (hL : Laid w) : Calls Tryz.prog 6 #[] w fun e w' => e = .returned (.bool true) ∧ Below w.heap.size w w' := by
  have HL : Hid (Laid w) := hL
  have hf := Format_ok 100 w hL (by decide) (by decide)
  clear hL
  go_enter Tryz.func6, Tryz.ntmps6
  go_wp2_with fail
  refine hf.mono ?_
  rintro e w1 ⟨v1, D, rfl, hD, hF1, hb1⟩
  obtain ⟨p, c, q, m, hv1, _⟩ := hF1.self.parts
  subst hv1
  simp only [List.length_nil] at hF1 ⊢
  obtain ⟨dl, hdl⟩ : ∃ k, D.length = k := ⟨_, rfl⟩
  rw [hdl] at hF1 ⊢
  have HB1 : Hid (Below w.heap.size w w1) := hb1
  obtain ⟨wB, hwB⟩ : ∃ wB, w1.alloc (.cells #[.int .i64 100, .slice p dl c, .slice q 0 m] 25) = wB := ⟨_, rfl⟩
  have HBB : Hid (Below w1.heap.size w1 wB) := by show Below _ _ _; rw [← hwB]; exact below_alloc _ _
  have HBX : Hid (wB.heap[w1.heap.size]? = some (.cells #[.int .i64 100, .slice p dl c, .slice q 0 m] 25 (0, 0))) := by show _ = _; rw [← hwB]; exact heap_alloc_new _ _
  have HKS : Hid (∀ w', Below wB.heap.size wB w' → (w'.cell? ⟨w1.heap.size, 0, none⟩ = some (.int .i64 100) ∧ w'.cell? ⟨w1.heap.size, 1, none⟩ = some (.slice p dl c) ∧ w'.cell? ⟨w1.heap.size, 2, none⟩ = some (.slice q 0 m)) ∧ Below wB.heap.size wB w') := fun w' hb => ⟨three_cells ((hb.block _ (lt_heap HBX.out)).trans HBX.out), hb⟩
  have HTD : Hid (∀ w' g, Below wB.heap.size wB w' → w'.heap[g]? = some (.cells #[.string ⟨#[97]⟩, .string (textS 130), .bool false] 52 (0, 0)) → Calls Tryz.prog 9 #[.agg #[.int .i64 100, .slice p dl c, .slice q 0 m], .slice (some ⟨g, 0, none⟩) 1 1] w' fun e w'' => TdA w' 130 e w'') := fun w' g hb hg => turned_a _ D g w' (HL.out.below (below_bt HB1.out (below_bt HBB.out hb))) hD (hF1.below (below_bt HBB.out hb)) hg
  have HTX : Hid (∀ w', Calls Tryz.prog 20 #[.int .i64 130] w' fun e w'' => e = .returned (.string (textS 130)) ∧ Below w'.heap.size w' w'') := fun w' => text_t 130 w' (by decide)
  clear hf hD hF1 hb1 hdl
  go_upto_region 2 with fail
  (try rw [hwB])
  clear hwB
  obtain ⟨⟨x0, x1, x2⟩, _⟩ := HKS.out wB (Below.refl _ _)
  go_region_held3 (fun w' => (w'.cell? ⟨w1.heap.size, 0, none⟩ = some (.int .i64 100) ∧ w'.cell? ⟨w1.heap.size, 1, none⟩ = some (.slice p dl c) ∧ w'.cell? ⟨w1.heap.size, 2, none⟩ = some (.slice q 0 m)) ∧ Below wB.heap.size wB w')
    (with_reducible first | exact HKS.out _ (Below.refl _ _).drew | exact HKS.out _ (Below.refl _ _) | exact HKS.out _ (below_alloc _ _).drew | exact HKS.out _ (below_alloc _ _) | exact HKS.out _ (below3 hB4 (Nat.le_succ_of_le hB3.size) _ _ _) | exact HKS.out _ (below3 hB4 hB3.size _ _ _) | exact HKS.out _ (below3 hB4 hB2.size _ _ _) | exact HKS.out _ (below3 hB4 (Nat.le_refl _) _ _ _) | exact HKS.out _ hB4 | exact HKS.out _ (below_bt hB4 (below_alloc _ _)) | exact HKS.out _ hB3 | exact HKS.out _ (below_bt hB3 (below_alloc _ _)) | exact HKS.out _ (below_bt hB3 (below_bt (below_alloc _ _) (below_alloc _ _))) | exact HKS.out _ hB2 | exact HKS.out _ (below_bt hB2 (below_alloc _ _)) | assumption)
    (first
    | (go_at_call 20; refine (HTX.out _).mono ?_; rintro e w2 ⟨rfl, hb2⟩; revert hb2; (first | (refine zx_new ?_; intro hb2 hz2; obtain ⟨⟨i0, i1, i2⟩, j0, j1, j2⟩ := hz2.cells) | (refine zx_newD ?_; intro hb2 hz2; obtain ⟨⟨i0, i1, i2⟩, j0, j1, j2⟩ := hz2.cells) | (refine zx_no ?_; intro hb2 hz2)); have hB2 : Below wB.heap.size wB w2 := (by first | exact hb2 | exact below_drC hb2 | exact below_bt (below_alloc _ _) hb2 | exact below_bt (below_alloc _ _) (below_drC hb2)))
    | (go_at_call 19; refine (put_t _ _ _).mono ?_; rintro e w3 ⟨rfl, hb3⟩; revert hz2 hb3; (first | (refine zx_keep ?_; intro hb3 hz3; obtain ⟨⟨i0, i1, i2⟩, j0, j1, j2⟩ := hz3.cells) | (refine zx_drop ?_; (first | (refine zx_new ?_; intro hb3 hz3; obtain ⟨⟨i0, i1, i2⟩, j0, j1, j2⟩ := hz3.cells) | (refine zx_no ?_; intro hb3 hz3)))); have hB3 : Below wB.heap.size wB w3 := below_bt hB2 (by first | exact hb3 | exact below_drC hb3 | exact below_bt (below_alloc _ _) hb3 | exact below_bt (below_alloc _ _) (below_drC hb3)))
    | (go_at_call 9; go_loud (refine (HTD.out _ _ (below_bt hB3 (by first | exact below_alloc _ _ | exact (below_alloc _ _).drew | exact below_bt (below_alloc _ _) (below_alloc _ _) | exact (below_bt (below_alloc _ _) (below_alloc _ _)).drew)) (by first | exact heap_alloc_new _ _ | exact chg_under _ _ _ _ | exact chg_over _ _ _ _)).mono ?_; rintro e w4 ⟨q1, n1, m1, q2, n2, m2, D2, y, s, rfl, hb4, hd4, hm4, hg4⟩; revert hz3 hb4; (first | (refine zx_keepC ?_; intro hb4 hz4; obtain ⟨⟨i0, i1, i2⟩, j0, j1, j2⟩ := hz4.a.cells) | (refine zx_drop ?_; (first | (refine zx_newC ?_; intro hb4 hz4; obtain ⟨⟨i0, i1, i2⟩, j0, j1, j2⟩ := hz4.a.cells) | (refine zx_under ?_; intro hb4 hz4; obtain ⟨⟨i0, i1, i2⟩, j0, j1, j2⟩ := hz4.a.cells) | (refine zx_no ?_; intro hb4 hz4)))); have hB4 : Below wB.heap.size wB w4 := below_bt hB3 (by first | exact below_bt (below_alloc _ _) hb4 | exact below_bt (below_bt (below_alloc _ _) (below_alloc _ _)) hb4 | exact below_bt (below_alloc _ _) (below_drC hb4))))
    | fail)
  all_goals
    rename_i hh
    have HBF : Hid _ := below_bt HB1.out (below_bt HBB.out hh.2)
    have HM4 : Hid (MountIs 100 D2 [] (some (y, s)) 0 ∧ getN D2 [] (some (y, s)) 0 aName = (0, numsOf (textS 130))) := ⟨hm4, hg4⟩
    have HD4 : Hid _ := hd4
    clear hm4 hg4 hd4
    go_wp2_with fail
    refine (Get_any _ aName 100 D2 [] _ (HL.out.below HBF.out) (by first | exact DiskF.set3 HD4.out hz4.b _ _ _ | exact DiskF.below HD4.out (below_alloc _ _)) (by decide) _ 0 HM4.out.1 0 _ HM4.out.2).mono ?_
    rintro e w5 ⟨⟨lv, rfl, hown⟩, hb5⟩
    obtain ⟨q5, m5, rfl, _, _, _⟩ := own_form hown
    have hln : (numsOf (textS 130)).length = 130 := by rw [numsOf_len, textS_size]
    rw [hln] at hown ⊢
    have HCV : Hid (∀ w', Below w5.heap.size w5 w' → (convert 22 9 (.slice q5 130 m5)).run Tryz.prog w' = .ok (.string (textS 130)) w' ∧ Below w5.heap.size w5 w') := fun w' hb => ⟨by
      have h1 : BIn w' q5 (numsOf (textS 130)) := own_at (own_below hown hb) hln.symm (numsOf_lt _)
      have h2 := conv_at (c := m5) h1 hln.symm
      rw [strOf_nums] at h2
      exact h2, hb⟩
    have HBG : Hid (Below w.heap.size w w5) := below_bt HBF.out hb5
    clear hown hh hb5
    go_upto_region 4 with fail
    obtain ⟨cv5, _⟩ := HCV.out w5 (Below.refl _ _)
    go_region_held3 (fun w' => (convert 22 9 (.slice q5 130 m5)).run Tryz.prog w' = .ok (.string (textS 130)) w' ∧ Below w5.heap.size w5 w')
      (with_reducible first | exact HCV.out _ (Below.refl _ _).drew | exact HCV.out _ (Below.refl _ _) | exact HCV.out _ hb6 | exact HCV.out _ (below_drC hb6) | assumption)
      (first
        | (go_at_call 20; refine (HTX.out _).mono ?_; rintro e w6 ⟨rfl, hb6⟩)
        | fail)
    rename_i hF
    have HBZ : Hid _ := below_bt HBG.out hF.2
    clear hF
    go_wp2
    go_ret
    exact ⟨rfl, HBZ.out⟩
end Go.Proofs.YtkgmhmhphgaclabGreatDoor
namespace Go.Proofs.YtkgmhmhphgaclabGreatDoor
open Go.RowKit Go.WideShapes Rm

theorem wrote_dir {x : DirV} {b : List Nat} (h : Wrote x 0 b) : IsDir ltS x b := by
  cases h with
  | ok h1 h2 => exact ⟨h1, h2, rfl⟩
theorem dir_wrote {x : DirV} {b : List Nat} (h : IsDir ltS x b) : Wrote x 0 b := by
  obtain ⟨h1, h2, rfl⟩ := h
  exact .ok h1 h2
theorem fown_dir {w : World} {base : Nat} {v : Value} {ls : FPs} {x : DirV} (h : FOwn w base v ls) (hm : May ltS x) (hl : ls.map Prod.fst = x.files) : DirIn w (.agg #[.int .i64 x.gen, v]) x := by
  have hf := hm.fin
  have := h.fin (fun y hy => (hf _ (by rw [← hl]; exact List.mem_map_of_mem hy)).2) (fun y hy => (hf _ (by rw [← hl]; exact List.mem_map_of_mem hy)).1)
  rw [hl] at this
  exact ⟨⟨v, rfl, this⟩, ⟨by have := hm.lo; omega, by have := hm.hi; omega⟩⟩
set_option maxRecDepth 20000 in
set_option maxHeartbeats 4000000 in
theorem law_back (v : Value) (x : DirV) (p : Option Addr) (c : Nat) (xs : List Nat) (w : World) (hL : Laid w) (hx : DirIn w v x) (hnm : ∀ f ∈ x.files, (f.name.size : Int) ≤ 9223372036854775807) (hsum : (allPcs x.files).length ≤ 1000000) (hb : BIn w p xs) (hc : xs.length ≤ c) (hcm : c ≤ maxLen) :
    Calls Tryz.prog 5 #[v, .slice p xs.length c] w fun e w' => e = .returned (.bool true) ∧ Below w.heap.size w w' := by
  obtain ⟨fv, rfl, hf⟩ := hx.lies
  have HX : Hid (DirIn w (.agg #[.int .i64 x.gen, fv]) x) := hx
  have HL : Hid (Laid w) := hL
  have HB : Hid (BIn w p xs) := hb
  have HCM : Hid (xs.length ≤ c ∧ c ≤ maxLen) := ⟨hc, hcm⟩
  have HS : Hid ((∀ f ∈ x.files, (f.name.size : Int) ≤ 9223372036854775807) ∧ (allPcs x.files).length ≤ 1000000) := ⟨hnm, hsum⟩
  obtain ⟨gen, l⟩ := x
  obtain ⟨q, cf, rfl, hq, hlc, hcf, _⟩ := hf.lies
  unfold maxLen at hcf hcm
  simp only at hlc
  clear hx hf hq hL hb hnm hsum
  obtain ⟨w0, hw0⟩ : ∃ w0, w.alloc (.cells #[.int .i64 gen, .slice q l.length cf] 43) = w0 := ⟨_, rfl⟩
  have HB0 : Hid (Below w.heap.size w w0) := by show Below _ _ _; rw [← hw0]; exact below_alloc _ _
  have HX0 : Hid (w0.heap[w.heap.size]? = some (.cells #[.int .i64 gen, .slice q l.length cf] 43 (0, 0))) := by show _ = _; rw [← hw0]; exact heap_alloc_new _ _
  have hal := alive_t w0 (HL.out.below HB0.out)
  go_enter Tryz.func5, Tryz.ntmps5
  go_upto_region 1 with fail
  (try rw [hw0])
  clear hw0
  go_wp2_with fail
  refine hal.mono ?_
  rintro e w1 ⟨rfl, hb1⟩
  have HB1 : Hid (Below w.heap.size w w1) := below_bt HB0.out hb1
  have HX1 : Hid (w1.heap[w.heap.size]? = some (.cells #[.int .i64 gen, .slice q l.length cf] 43 (0, 0))) := (hb1.block _ (lt_heap HX0.out)).trans HX0.out
  have d0 : w1.cell? ⟨w.heap.size, 0, none⟩ = some (.int .i64 gen) := cell_of_row _ _ _ _ _ _ HX1.out
  have d1 : w1.cell? ⟨w.heap.size, 1, none⟩ = some (.slice q l.length cf) := cell_of_row _ _ _ _ _ _ HX1.out
  clear hal hb1
  by_cases h1 : l.length ≤ 100
  · by_cases h2 : xs.length ≤ 5000
    · have hw := Write_any _ ⟨gen, l⟩ w1 (HL.out.below HB1.out) (HX.out.below HB1.out) HS.out.1 HS.out.2
      go_wp2_with fail
      refine hw.mono ?_
      rintro e w2 ⟨rp, n2, b2, rfl, hw2, ho2, hb2⟩
      obtain ⟨q2, m2, rfl, hm2a, hm2b, _⟩ := own_form ho2
      have HB2 : Hid (Below w.heap.size w w2) := below_bt HB1.out hb2
      have HX2 : Hid (w2.heap[w.heap.size]? = some (.cells #[.int .i64 gen, .slice q l.length cf] 43 (0, 0))) := (hb2.block _ (lt_heap HX1.out)).trans HX1.out
      clear hw d0 d1 hb2
      by_cases hn : n2 = 0
      · subst hn
        have HBL : Hid (b2.length = 1024) := wrote_len hw2
        have HI2 : Hid (BIn w2 q2 b2) := own_in ho2 (wrote_bytes hw2)
        have HW2 : Hid (Wrote ⟨gen, l⟩ 0 b2) := hw2
        have hrd := Read_any q2 m2 b2 w2 (HL.out.below HB2.out) HI2.out hm2a hm2b
        clear hw2 ho2
        go_wp2_with fail
        refine hrd.mono ?_
        rintro e3 w3 hr3
        clear hrd
        rcases hr3 with ⟨x3, ls, lv, hx3, hl3, rfl, hf3, hb3⟩ | ⟨hno, rfl, hb3⟩
        · have he := isDir_only hx3 (wrote_dir HW2.out)
          subst he
          obtain ⟨ql, ml, rfl, _⟩ := hf3.form
          have HLL : Hid (ls.length = l.length) := by
            have h := congrArg List.length hl3
            rw [List.length_map] at h
            exact h
          have HB4 : Hid (Below w.heap.size w (w3.alloc (.cells #[.int .i64 gen, .slice ql ls.length ml] 43))) := below_bt (below_bt HB2.out hb3) (below_alloc _ _)
          have HY4 : Hid ((w3.alloc (.cells #[.int .i64 gen, .slice ql ls.length ml] 43)).heap[w3.heap.size]? = some (.cells #[.int .i64 gen, .slice ql ls.length ml] 43 (0, 0))) := heap_alloc_new _ _
          have HX4 : Hid ((w3.alloc (.cells #[.int .i64 gen, .slice ql ls.length ml] 43)).heap[w.heap.size]? = some (.cells #[.int .i64 gen, .slice q l.length cf] 43 (0, 0))) := ((below_bt hb3 (below_alloc _ _)).block _ (lt_heap HX2.out)).trans HX2.out
          have HI4 : Hid (BIn (w3.alloc (.cells #[.int .i64 gen, .slice ql ls.length ml] 43)) q2 b2) := HI2.out.below (below_bt hb3 (below_alloc _ _))
          have hwr := Write_any _ ⟨gen, l⟩ (w3.alloc (.cells #[.int .i64 gen, .slice ql ls.length ml] 43)) (HL.out.below HB4.out) (fown_dir (hf3.below (below_alloc _ _)) hx3.1 hl3) HS.out.1 HS.out.2
          clear hf3 hb3 hx3 hl3
          go_wp2_with fail
          refine hwr.mono ?_
          rintro e w4 ⟨r4, n4, b4, rfl, hw4, ho4, hb4⟩
          obtain ⟨e4, f4⟩ := HW2.out.only hw4
          subst e4
          subst f4
          obtain ⟨q4, m4, rfl, _, _, _⟩ := own_form ho4
          obtain ⟨wz, rfl⟩ : ∃ wz, wz = w4 := ⟨_, rfl⟩
          have HBz : Hid (Below w.heap.size w wz) := below_bt HB4.out hb4
          have HYz : Hid _ := (hb4.block _ (lt_heap HY4.out)).trans HY4.out
          have HXz : Hid _ := (hb4.block _ (lt_heap HX4.out)).trans HX4.out
          have k1 : (convert 22 9 (.slice q4 b2.length m4)).run Tryz.prog wz = .ok (.string (strOf b2)) wz := conv_at (own_in ho4 (wrote_bytes HW2.out)) rfl
          have k2 : (convert 22 9 (.slice q2 b2.length m2)).run Tryz.prog wz = .ok (.string (strOf b2)) wz := conv_at (HI4.out.below hb4) rfl
          have hbl := HBL.out
          rw [hbl] at k1 k2 ⊢
          have hll := HLL.out
          have y0 : wz.cell? ⟨w3.heap.size, 0, none⟩ = some (.int .i64 gen) := cell_of_row _ _ _ _ _ _ HYz.out
          have y1 : wz.cell? ⟨w3.heap.size, 1, none⟩ = some (.slice ql ls.length ml) := cell_of_row _ _ _ _ _ _ HYz.out
          rw [hll] at y1 ⊢
          have d0 : wz.cell? ⟨w.heap.size, 0, none⟩ = some (.int .i64 gen) := cell_of_row _ _ _ _ _ _ HXz.out
          have d1 : wz.cell? ⟨w.heap.size, 1, none⟩ = some (.slice q l.length cf) := cell_of_row _ _ _ _ _ _ HXz.out
          clear hwr hw4 ho4 hb4 hbl hll
          have hrd2 := Read_any p c xs wz (HL.out.below HBz.out) (HB.out.below HBz.out) HCM.out.1 HCM.out.2
          go_wp2_with fail
          refine hrd2.mono ?_
          rintro e5 w5 hr5
          clear hrd2
          rcases hr5 with ⟨x5, ks, lv5, hx5, hl5, rfl, hf5, hb5⟩ | ⟨hno5, rfl, hb5⟩
          · obtain ⟨q5, m5, rfl, _⟩ := hf5.form
            have HB6 : Hid (Below w.heap.size w (w5.alloc (.cells #[.int .i64 x5.gen, .slice q5 ks.length m5] 43))) := below_bt (below_bt HBz.out hb5) (below_alloc _ _)
            have hwr2 := Write_any _ x5 (w5.alloc (.cells #[.int .i64 x5.gen, .slice q5 ks.length m5] 43)) (HL.out.below HB6.out) (fown_dir (hf5.below (below_alloc _ _)) hx5.1 hl5) (fun f hf => by have := hx5.1.told.name f hf; omega) (by have := (errK_zero hx5.1.pcs).2.1; omega)
            clear hf5 hb5
            go_wp2_with fail
            refine hwr2.mono ?_
            rintro e w6 ⟨r6, n6, b6, rfl, hw6, ho6, hb6⟩
            obtain ⟨e6, f6⟩ := (dir_wrote hx5).only hw6
            subst e6
            subst f6
            obtain ⟨q6, m6, rfl, _, _, _⟩ := own_form ho6
            have HB7 : Hid (Below w.heap.size w w6) := below_bt HB6.out hb6
            have c1 : (convert 22 9 (.slice q6 xs.length m6)).run Tryz.prog w6 = .ok (.string (strOf xs)) w6 := conv_at (own_in ho6 HB.out.2) rfl
            have c2 : (convert 22 9 (.slice p xs.length c)).run Tryz.prog w6 = .ok (.string (strOf xs)) w6 := conv_at (HB.out.below HB7.out) rfl
            clear hwr2 hw6 ho6 hb6 hx5 hl5
            go_wp2
            go_ret
            exact ⟨rfl, HB7.out⟩
          · have HB6 : Hid (Below w.heap.size w w5) := below_bt HBz.out hb5
            clear hno5 hb5
            go_wp2
            go_ret
            exact ⟨rfl, below_bt HB6.out (below_alloc _ _)⟩
        · exact absurd (wrote_dir HW2.out) (hno _)
      · have hnb : (n2 == 0) = false := by simpa using hn
        obtain ⟨wz, rfl⟩ : ∃ wz, wz = w2 := ⟨_, rfl⟩
        have HBz : Hid (Below w.heap.size w wz) := HB2.out
        clear hw2 ho2
        have hrd2 := Read_any p c xs wz (HL.out.below HBz.out) (HB.out.below HBz.out) HCM.out.1 HCM.out.2
        go_wp2_with fail
        refine hrd2.mono ?_
        rintro e5 w5 hr5
        clear hrd2
        rcases hr5 with ⟨x5, ks, lv5, hx5, hl5, rfl, hf5, hb5⟩ | ⟨hno5, rfl, hb5⟩
        · obtain ⟨q5, m5, rfl, _⟩ := hf5.form
          have HB6 : Hid (Below w.heap.size w (w5.alloc (.cells #[.int .i64 x5.gen, .slice q5 ks.length m5] 43))) := below_bt (below_bt HBz.out hb5) (below_alloc _ _)
          have hwr2 := Write_any _ x5 (w5.alloc (.cells #[.int .i64 x5.gen, .slice q5 ks.length m5] 43)) (HL.out.below HB6.out) (fown_dir (hf5.below (below_alloc _ _)) hx5.1 hl5) (fun f hf => by have := hx5.1.told.name f hf; omega) (by have := (errK_zero hx5.1.pcs).2.1; omega)
          clear hf5 hb5
          go_wp2_with fail
          refine hwr2.mono ?_
          rintro e w6 ⟨r6, n6, b6, rfl, hw6, ho6, hb6⟩
          obtain ⟨e6, f6⟩ := (dir_wrote hx5).only hw6
          subst e6
          subst f6
          obtain ⟨q6, m6, rfl, _, _, _⟩ := own_form ho6
          have HB7 : Hid (Below w.heap.size w w6) := below_bt HB6.out hb6
          have c1 : (convert 22 9 (.slice q6 xs.length m6)).run Tryz.prog w6 = .ok (.string (strOf xs)) w6 := conv_at (own_in ho6 HB.out.2) rfl
          have c2 : (convert 22 9 (.slice p xs.length c)).run Tryz.prog w6 = .ok (.string (strOf xs)) w6 := conv_at (HB.out.below HB7.out) rfl
          clear hwr2 hw6 ho6 hb6 hx5 hl5
          go_wp2
          go_ret
          exact ⟨rfl, HB7.out⟩
        · have HB6 : Hid (Below w.heap.size w w5) := below_bt HBz.out hb5
          clear hno5 hb5
          go_wp2
          go_ret
          exact ⟨rfl, below_bt HB6.out (below_alloc _ _)⟩
    · have h3 : ¬ ((xs.length : Int) ≤ 5000) := by omega
      go_wp2
      go_ret
      exact ⟨rfl, HB1.out⟩
  · have h3 : ¬ ((l.length : Int) ≤ 100) := by omega
    go_wp2
    go_ret
    exact ⟨rfl, HB1.out⟩
end Go.Proofs.YtkgmhmhphgaclabGreatDoor
namespace Go.Proofs.YtkgmhmhphgaclabGreatDoor
open Go.RowKit Go.WideShapes Rm

/-- What turned answers, the disk of before too where it answers an error. -/
structure TdQ (w : World) (count : Int) (data : List Nat) (ws : Puts) (S : Int → Acts → Prop) (e : Ending) (w' : World) : Prop where
  ex : ∃ m A c0 q1 n1 m1 q2 n2 m2 E, S m A ∧ e = .returned (.tuple #[.agg #[.int .i64 c0, .slice q1 n1 m1, .slice q2 n2 m2], .int .i64 E]) ∧ Below w.heap.size w w' ∧
    ((m ≠ 0 ∧ E = m ∧ DiskIn w' (.agg #[.int .i64 c0, .slice q1 n1 m1, .slice q2 n2 m2]) count data ws) ∨ (m = 0 ∧ E = resE (doAny count data ws A) ∧ DiskF w.heap.size w' (.agg #[.int .i64 c0, .slice q1 n1 m1, .slice q2 n2 m2]) (resC count (doAny count data ws A)) (resD (doAny count data ws A)) (resW (doAny count data ws A))))
set_option maxRecDepth 8000 in
set_option maxHeartbeats 4000000 in
theorem turned_any2 (v : Value) (count : Int) (data : List Nat) (ws : Puts) (lq : Option Addr) (ln lc : Nat) (l : List CV) (w : World) (hL : Laid w) (hd : DiskIn w v count data ws) (r : Option (DirV × Int)) (n : Int) (hm : MountIs count data ws r n)
    (hl : ChgIn w lq ln lc l) (hvs : ∀ y ∈ l, (y.val.size : Int) ≤ 9223372036854775000) :
    Calls Tryz.prog 9 #[v, .slice lq ln lc] w fun e w' => TdQ w count data ws (TurnIs count data ws r n l) e w' := by
  obtain ⟨p, c, q, m, rfl, _⟩ := hd.parts
  obtain ⟨dl, hdl⟩ : ∃ k, data.length = k := ⟨_, rfl⟩
  obtain ⟨wl, hwl⟩ : ∃ k, ws.length = k := ⟨_, rfl⟩
  rw [hdl, hwl] at hd ⊢
  obtain ⟨W2, hW2⟩ : ∃ W2, (w.alloc (.cells #[.int .i64 count, .slice p dl c, .slice q wl m] 25)).alloc (.cells #[.int .i64 0, .slice none 0 0, .slice none 0 0] 25) = W2 := ⟨_, rfl⟩
  have hB2 : Below w.heap.size w W2 := by rw [← hW2]; exact below_bt (below_alloc _ _) (below_alloc _ _)
  have HX : Hid (∀ w', Below W2.heap.size W2 w' → w'.heap[w.heap.size]? = some (.cells #[.int .i64 count, .slice p dl c, .slice q wl m] 25 (0, 0)) ∧ w'.heap[w.heap.size + 1]? = some (.cells #[.int .i64 0, .slice none 0 0, .slice none 0 0] 25 (0, 0))) := by
    intro w' hb
    have h1 : W2.heap[w.heap.size]? = some (.cells #[.int .i64 count, .slice p dl c, .slice q wl m] 25 (0, 0)) := by
      rw [← hW2]
      exact ((below_alloc (w.alloc _) _).block _ (by simp)).trans (heap_alloc_new w _)
    have h2 : W2.heap[w.heap.size + 1]? = some (.cells #[.int .i64 0, .slice none 0 0, .slice none 0 0] 25 (0, 0)) := by
      rw [← hW2]
      have := heap_alloc_new (w.alloc (.cells #[.int .i64 count, .slice p dl c, .slice q wl m] 25)) (.cells #[.int .i64 0, .slice none 0 0, .slice none 0 0] 25)
      simpa using this
    exact ⟨(hb.block _ (lt_heap h1)).trans h1, (hb.block _ (lt_heap h2)).trans h2⟩
  have hT := Turn_any _ count data ws lq ln lc l W2 (hL.below hB2) (hd.below hB2) r n hm ⟨hl.lies.below hB2, hl.len, hl.cap, hl.fits, hl.keys⟩ hvs
  have HB2 : Hid (Below w.heap.size w W2) := hB2
  have HD : Hid (DiskIn w (.agg #[.int .i64 count, .slice p dl c, .slice q wl m]) count data ws) := hd
  have HSZ : Hid (W2.heap.size = w.heap.size + 2) := by show _ = _; rw [← hW2]; simp
  obtain ⟨⟨x0, x1, x2⟩, xf0, xf1, xf2⟩ := cells3f (HX.out W2 (Below.refl _ _)).1
  clear hd hL hm hl hvs hB2 hdl hwl
  go_enter Tryz.func9, Tryz.ntmps9
  go_upto_region 1 with fail
  (try rw [hW2])
  clear hW2
  go_wp2_with fail
  refine hT.mono ?_
  rintro e w3 ⟨mm, A, av, L, hS, rfl, hown, hLA, hb3⟩
  have HS : Hid (TurnIs count data ws r n l mm A) := hS
  obtain ⟨aq, am, rfl, _, _, _⟩ := hown.form
  have hlies := hown.lies
  have HB3 : Hid (Below w.heap.size w w3) := below_bt HB2.out hb3
  have HX3 : Hid _ := HX.out w3 hb3
  obtain ⟨⟨y0, y1, y2⟩, yf0, yf1, yf2⟩ := cells3f HX3.out.1
  obtain ⟨⟨z0, z1, z2⟩, zf0, zf1, zf2⟩ := cells3f HX3.out.2
  have hne : w.heap.size ≠ w.heap.size + 1 := by omega
  have hne2 : w.heap.size + 1 ≠ w.heap.size := by omega
  by_cases hm0 : mm = 0
  · subst hm0
    have hdo := do_all _ count data ws w3 (HD.out.below HB3.out) aq L.length am A (by rw [← hLA, List.length_map]) (by rw [← hLA]; exact hlies.2.1) (by rw [← hLA, List.length_map]; have := hlies.2.2; unfold maxLen at this; omega) _ rfl
    obtain ⟨R, hR⟩ : ∃ R, doAny count data ws A = R := ⟨_, rfl⟩
    have HR : Hid (doAny count data ws A = R) := hR
    rw [hR] at hdo
    have HL3 : Hid (w.heap.size + 1 < w3.heap.size) := by have := hb3.size; have := HSZ.out; show _ < _; omega
    clear hT hb3 hown hlies hLA hS hR x0 x1 x2 xf0 xf1 xf2
    go_wp2_with fail
    refine hdo.mono ?_
    rintro e w4 ⟨⟨v4, rfl, hF4⟩, hb4⟩
    have HB4 : Hid (Below w.heap.size w w4) := below_bt HB3.out hb4
    have hI4 := hF4.self
    obtain ⟨p4, c4, q4, m4, rfl, _⟩ := hI4.parts
    obtain ⟨d4, hd4⟩ : ∃ k, (resD R).length = k := ⟨_, rfl⟩
    obtain ⟨u4, hu4⟩ : ∃ k, (resW R).length = k := ⟨_, rfl⟩
    rw [hd4, hu4] at hF4 ⊢
    obtain ⟨E4, hE4⟩ : ∃ k, resE R = k := ⟨_, rfl⟩
    obtain ⟨C4, hC4⟩ : ∃ k, resC count R = k := ⟨_, rfl⟩
    have HE4 : Hid (resE R = E4 ∧ resC count R = C4) := ⟨hE4, hC4⟩
    rw [hE4, hC4]
    rw [hC4] at hF4
    have HF4 : Hid (DiskF w3.heap.size w4 (.agg #[.int .i64 C4, .slice p4 d4 c4, .slice q4 u4 m4]) C4 (resD R) (resW R) ∧ w3.heap.size ≤ w4.heap.size) := ⟨hF4, hb4.size⟩
    have HX4 : Hid (w4.heap[w.heap.size + 1]? = some (.cells #[.int .i64 0, .slice none 0 0, .slice none 0 0] 25 (0, 0))) := (hb4.block _ (lt_heap HX3.out.2)).trans HX3.out.2
    have HX5 : Hid ((w4.alloc (.cells #[.int .i64 C4, .slice p4 d4 c4, .slice q4 u4 m4] 25)).heap[w.heap.size + 1]? = some (.cells #[.int .i64 0, .slice none 0 0, .slice none 0 0] 25 (0, 0))) := ((below_alloc w4 _).block _ (lt_heap HX4.out)).trans HX4.out
    obtain ⟨⟨s0, s1, s2⟩, sf0, sf1, sf2⟩ := cells3f HX5.out
    clear hdo hF4 hb4 hI4 hd4 hu4 hE4 hC4 y0 y1 y2 yf0 yf1 yf2 z0 z1 z2 zf0 zf1 zf2
    go_wp2
    (try simp only [Exit.inBlock, Exit.then])
    refine bodyPost_ret (v := .tuple #[.agg #[.int .i64 C4, .slice p4 d4 c4, .slice q4 u4 m4], .int .i64 E4]) ?_ rfl ?_
    · rw [results_cell_tmp rfl]
      go_simp
    · refine ⟨⟨0, A, _, _, _, _, _, _, _, _, HS.out, rfl, ?_, .inr ⟨rfl, by rw [HR.out, HE4.out.1], ?_⟩⟩⟩
      · repeat' first
          | exact below_bt HB4.out (below_alloc _ _)
          | refine below_setR _ _ ?_ (Nat.le_succ w.heap.size)
      · rw [HR.out, HE4.out.2]
        refine fun w5 h5 => HF4.out.1 _ (fun k k1 k2 => (h5 k (by have := HL3.out; omega) (by simp only [World.size_setCell, World.size_alloc]; omega)).trans ?_)
        have e1 : k ≠ w.heap.size + 1 := by have := HL3.out; omega
        repeat' first
          | refine (set_keep e1).trans ?_
          | exact alloc_keep k2
  · have hmb : (mm == 0) = false := by simpa using hm0
    have HM : Hid (mm ≠ 0) := hm0
    clear hT hb3 hown hlies hLA hS x0 x1 x2 xf0 xf1 xf2
    go_wp2
    (try simp only [Exit.inBlock, Exit.then])
    refine bodyPost_ret (v := .tuple #[.agg #[.int .i64 count, .slice p dl c, .slice q wl m], .int .i64 mm]) ?_ rfl ?_
    · rw [results_cell_tmp rfl]
      go_simp
    · have hbl : ∀ w4 : World, Below w.heap.size w w4 → TdQ w count data ws (TurnIs count data ws r n l) (.returned (.tuple #[.agg #[.int .i64 count, .slice p dl c, .slice q wl m], .int .i64 mm])) w4 := fun w4 hb4 => ⟨⟨mm, A, _, _, _, _, _, _, _, _, HS.out, rfl, hb4, .inl ⟨HM.out, rfl, HD.out.below hb4⟩⟩⟩
      refine hbl _ ?_
      repeat' first
        | exact HB3.out
        | refine below_setR _ _ ?_ (Nat.le_succ w.heap.size)
end Go.Proofs.YtkgmhmhphgaclabGreatDoor
