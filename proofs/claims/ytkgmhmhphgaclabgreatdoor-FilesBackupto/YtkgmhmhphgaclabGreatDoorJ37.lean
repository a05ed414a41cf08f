/-
  Directories handed in, and how many pieces they have, held against their bulk.
-/
import Derived.Test.YtkgmhmhphgaclabGreatDoorJ36
import Derived.Test.YtkgmhmhphgaclabGreatDoorJ33
import Derived.Test.YtkgmhmhphgaclabGreatDoorJ12
import Derived.Test.YtkgmhmhphgaclabGreatDoorJ17
import Derived.Test.YtkgmhmhphgaclabGreatDoorJ32
import Derived.Test.YtkgmhmhphgaclabGreatDoorRows
import Derived.Test.YtkgmhmhphgaclabGreatDoorJ16
namespace Go.Proofs.YtkgmhmhphgaclabGreatDoor
open Go.RowKit Go.WideShapes Rm

theorem formatD4 (a b : Addr) (ev old : Value) (n : Int) (u : FrameMode) (w : World) (hg : ErrT w) (hv : ErrV ev n) (ha : w.cell? a = some ev) (hb : w.cell? b = some old) (hf : w.frozen? b = false) :
    CallsD Tryz.prog 41 #[.pointer (some a), .pointer (some b)] u w fun e u' w' => u' = u ∧ e = .returned (.tuple #[]) ∧ ∃ w1, w' = w1.setCell b (.int .i64 n) ∧ Below w.heap.size w w1 := by
  have hn := number_v ev n hv w hg
  have hlt := World.block_lt_of_cell? _ _ hb
  go_enter_d Tryz.func41, Tryz.ntmps41
  go_wp2_with fail
  refine hn.mono ?_
  rintro e w1 ⟨rfl, hb1⟩
  have hb2 : w1.cell? b = some old := (hb1.cell hlt).trans hb
  have hf2 : w1.frozen? b = false := (hb1.frozen hlt).trans hf
  go_wp2
  go_end0
  exact ⟨rfl, w1, rfl, hb1⟩
theorem DiskF.up {base base' : Nat} {w w' : World} {v : Value} {count : Int} {data : List Nat} {ws : Puts} (h : DiskF base w v count data ws) (hb : base' ≤ base) (hs : w.heap.size ≤ w'.heap.size) (hk : ∀ k : Nat, base ≤ k → k < w.heap.size → w'.heap[k]? = w.heap[k]?) : DiskF base' w' v count data ws :=
  fun w2 h2 => h w2 (fun k k1 k2 => (h2 k (by omega) (by omega)).trans (hk k k1 k2))
/-- The cells of the results, laid down twice. -/
def fmtW (w1 : World) (H : Nat) (a b c : Value) : World := (((((((w1.setCell ⟨H, 0, none⟩ a).setCell ⟨H, 1, none⟩ b).setCell ⟨H, 2, none⟩ c).setCell ⟨H + 1 + 1, 0, none⟩ .nilIface).setCell ⟨H, 0, none⟩ a).setCell ⟨H, 1, none⟩ b).setCell ⟨H, 2, none⟩ c).setCell ⟨H + 1, 0, none⟩ (.int .i64 0)
section
variable {w1 : World} {H : Nat} {a b c x0 x1 x2 e r : Value}
theorem fmtW_err (h : w1.cell? ⟨H + 1 + 1, 0, none⟩ = some r) : (fmtW w1 H a b c).cell? ⟨H + 1 + 1, 0, none⟩ = some .nilIface := by
  unfold fmtW
  rw [o1 _ _ (ab_ne (by omega)), o1 _ _ (ab_ne (by omega)), o1 _ _ (ab_ne (by omega)), o1 _ _ (ab_ne (by omega))]
  refine o2 (u := r) ?_
  rw [o1 _ _ (ab_ne (by omega)), o1 _ _ (ab_ne (by omega)), o1 _ _ (ab_ne (by omega))]
  exact h
theorem fmtW_num (h : w1.cell? ⟨H + 1, 0, none⟩ = some e) : (fmtW w1 H a b c).cell? ⟨H + 1, 0, none⟩ = some (.int .i64 0) := by
  unfold fmtW
  refine o2 (u := e) ?_
  rw [o1 _ _ (ab_ne (by omega)), o1 _ _ (ab_ne (by omega)), o1 _ _ (ab_ne (by omega)), o1 _ _ (ab_ne (by omega)), o1 _ _ (ab_ne (by omega)), o1 _ _ (ab_ne (by omega)), o1 _ _ (ab_ne (by omega))]
  exact h
theorem fmtW_fr (h : w1.frozen? ⟨H + 1, 0, none⟩ = false) : (fmtW w1 H a b c).frozen? ⟨H + 1, 0, none⟩ = false := by
  unfold fmtW
  simpa using h
theorem fmtW_cells (h0 : w1.cell? ⟨H, 0, none⟩ = some x0) (h1 : w1.cell? ⟨H, 1, none⟩ = some x1) (h2 : w1.cell? ⟨H, 2, none⟩ = some x2) : (fmtW w1 H a b c).cell? ⟨H, 0, none⟩ = some a ∧ (fmtW w1 H a b c).cell? ⟨H, 1, none⟩ = some b ∧ (fmtW w1 H a b c).cell? ⟨H, 2, none⟩ = some c := by
  unfold fmtW
  refine ⟨?_, ?_, ?_⟩
  · rw [o1 _ _ (ab_ne (by omega)), o1 _ _ (ij_ne (by decide)), o1 _ _ (ij_ne (by decide))]
    refine o2 (u := a) ?_
    rw [o1 _ _ (ab_ne (by omega)), o1 _ _ (ij_ne (by decide)), o1 _ _ (ij_ne (by decide))]
    exact o2 h0
  · rw [o1 _ _ (ab_ne (by omega)), o1 _ _ (ij_ne (by decide))]
    refine o2 (u := b) ?_
    rw [o1 _ _ (ij_ne (by decide)), o1 _ _ (ab_ne (by omega)), o1 _ _ (ij_ne (by decide))]
    refine o2 (u := x1) ?_
    rw [o1 _ _ (ij_ne (by decide))]
    exact h1
  · rw [o1 _ _ (ab_ne (by omega))]
    refine o2 (u := c) ?_
    rw [o1 _ _ (ij_ne (by decide)), o1 _ _ (ij_ne (by decide)), o1 _ _ (ab_ne (by omega))]
    refine o2 (u := x2) ?_
    rw [o1 _ _ (ij_ne (by decide)), o1 _ _ (ij_ne (by decide))]
    exact h2
theorem fmtW_other {k : Nat} (h0 : k ≠ H) (h1 : k ≠ H + 1) (h2 : k ≠ H + 1 + 1) : (fmtW w1 H a b c).heap[k]? = w1.heap[k]? := by
  unfold fmtW
  rw [set_keep h1, set_keep h0, set_keep h0, set_keep h0, set_keep h2, set_keep h0, set_keep h0, set_keep h0]
theorem fmtW_below {w : World} (h : Below H w w1) : Below H w (fmtW w1 H a b c) := by
  unfold fmtW
  exact below_setR _ _ (below_setR _ _ (below_setR _ _ (below_setR _ _ (below_setR _ _ (below_setR _ _ (below_setR _ _ (below_setR _ _ h (Nat.le_refl _)) (Nat.le_refl _)) (Nat.le_refl _)) (by omega)) (Nat.le_refl _)) (Nat.le_refl _)) (Nat.le_refl _)) (by omega)
theorem fmtW_size : (fmtW w1 H a b c).heap.size = w1.heap.size := by unfold fmtW; simp
end
/-- What Format leaves in memory. -/
structure FmtN (w : World) (n : Nat) (e : Ending) (w' : World) : Prop where
  ex : ∃ v D, e = .returned (.tuple #[v, .int .i64 0]) ∧ FmtIs n D ∧ DiskF w.heap.size w' v (n : Int) D [] ∧ Below w.heap.size w w'
set_option maxRecDepth 8000 in
set_option maxHeartbeats 4000000 in
theorem Format_ok (n : Nat) (w : World) (hL : Laid w) (h1 : 96 ≤ n) (h2 : n ≤ 4096) :
    Calls Tryz.prog 18 #[.int .i64 (n : Int)] w fun e w' => FmtN w n e w' := by
  have hb3 : Below w.heap.size w (((w.alloc (.cells #[.int .i64 0, .slice none 0 0, .slice none 0 0] 25)).alloc (.cells #[.int .i64 0] 31)).alloc (.cells #[.nilIface] 63)) := ((below_alloc w _).alloc (by simp) _).alloc (by simp; omega) _
  have hft := format_ok n (((w.alloc (.cells #[.int .i64 0, .slice none 0 0, .slice none 0 0] 25)).alloc (.cells #[.int .i64 0] 31)).alloc (.cells #[.nilIface] 63)) h1 h2
  have HG : Hid (ErrT w) := hL.err
  have hmf : ∀ (fn : Fn) (first cap : Array Value) (w : World), (Instr.makeFunc fn first cap).run Tryz.prog w = .ok (.func fn first cap) w := fun _ _ _ _ => rfl
  have HDK : Hid ((((w.alloc (.cells #[.int .i64 0, .slice none 0 0, .slice none 0 0] 25)).alloc (.cells #[.int .i64 0] 31)).alloc (.cells #[.nilIface] 63)).heap[w.heap.size]? = some (.cells #[.int .i64 0, .slice none 0 0, .slice none 0 0] 25 (0, 0))) := by
    have h1 := heap_alloc_new w (.cells #[.int .i64 0, .slice none 0 0, .slice none 0 0] 25)
    have h2 := ((below_alloc (w.alloc (.cells #[.int .i64 0, .slice none 0 0, .slice none 0 0] 25)) (.cells #[.int .i64 0] 31)).block _ (by simp)).trans h1
    exact ((below_alloc ((w.alloc (.cells #[.int .i64 0, .slice none 0 0, .slice none 0 0] 25)).alloc (.cells #[.int .i64 0] 31)) (.cells #[.nilIface] 63)).block _ (by simp; omega)).trans h2
  clear hL h1 h2
  go_enter_defers Tryz.func18, Tryz.ntmps18
  go_wp2_with fail
  refine hft.mono ?_
  rintro e w1 ⟨v, D, rfl, hD, hF, hbb⟩
  have hs1 := hbb.size
  simp at hs1
  obtain ⟨ce, cr, fe, fr⟩ := vars2 (a := .int .i64 0) (b := .nilIface) (s := 31) (t := 63) (w.alloc (.cells #[.int .i64 0, .slice none 0 0, .slice none 0 0] 25)) w1 hbb
  simp only [heap_size_alloc] at ce cr fe fr
  obtain ⟨⟨d0, d1, d2⟩, g0, g1, g2⟩ := cells3f ((hbb.block _ (lt_heap HDK.out)).trans HDK.out)
  have HB : Hid (Below w.heap.size w w1) := hb3.trans (hbb.mono hb3.size)
  simp only [heap_size_alloc] at hF
  have HF : Hid (FmtIs n D ∧ DiskF (w.heap.size + 1 + 1 + 1) w1 v (n : Int) D []) := ⟨hD, hF⟩
  obtain ⟨p, c, q, m, rfl, _⟩ := hF.self.parts
  simp only [List.length_nil] at HF ⊢
  obtain ⟨dl, hdl⟩ : ∃ k, D.length = k := ⟨_, rfl⟩
  rw [hdl] at HF ⊢
  clear hft hb3 hbb hD hF hdl
  go_wp2
  have g1 := fmtW_err (a := .int .i64 (n : Int)) (b := .slice p dl c) (c := .slice q 0 m) cr
  have g2 := fmtW_num (a := .int .i64 (n : Int)) (b := .slice p dl c) (c := .slice q 0 m) ce
  have g3 := fmtW_fr (a := .int .i64 (n : Int)) (b := .slice p dl c) (c := .slice q 0 m) fe
  have g4 := fmtW_cells (a := .int .i64 (n : Int)) (b := .slice p dl c) (c := .slice q 0 m) d0 d1 d2
  have hbW : Below w.heap.size w (fmtW w1 w.heap.size (.int .i64 (n : Int)) (.slice p dl c) (.slice q 0 m)) := fmtW_below HB.out
  have hoW : ∀ k, w.heap.size + 1 + 1 + 1 ≤ k → (fmtW w1 w.heap.size (.int .i64 (n : Int)) (.slice p dl c) (.slice q 0 m)).heap[k]? = w1.heap[k]? := fun k hk => fmtW_other (by omega) (by omega) (by omega)
  have hsW : (fmtW w1 w.heap.size (.int .i64 (n : Int)) (.slice p dl c) (.slice q 0 m)).heap.size = w1.heap.size := fmtW_size
  show bodyPostD _ _ _ _ _ (fmtW w1 w.heap.size (.int .i64 (n : Int)) (.slice p dl c) (.slice q 0 m))
  generalize fmtW w1 w.heap.size (.int .i64 (n : Int)) (.slice p dl c) (.slice q 0 m) = W at *
  refine leaves_cons (f := 41) (args := #[.pointer (some ⟨w.heap.size + 1 + 1, 0, none⟩), .pointer (some ⟨w.heap.size + 1, 0, none⟩)]) (by simp) (by simp [go_sem]) ?_
  refine (formatD4 ⟨w.heap.size + 1 + 1, 0, none⟩ ⟨w.heap.size + 1, 0, none⟩ .nilIface (.int .i64 0) 0 .returning _ (HG.out.below hbW) (.inl ⟨rfl, rfl⟩) g1 g2 g3).mono ?_
  rintro e u' w'' ⟨rfl, rfl, w3, rfl, hb3⟩
  have hltE := World.block_lt_of_cell? _ _ g2
  have hltD := World.block_lt_of_cell? _ _ g4.1
  have k1 : (w3.setCell ⟨w.heap.size + 1, 0, none⟩ (.int .i64 0)).cell? ⟨w.heap.size + 1, 0, none⟩ = some (.int .i64 0) := World.cell?_setCell_same _ _ _ ((hb3.cell hltE).trans g2)
  have k2 : Below w.heap.size w (w3.setCell ⟨w.heap.size + 1, 0, none⟩ (.int .i64 0)) := below_setR _ _ (hbW.trans (hb3.mono hbW.size)) (by omega)
  have m0 : (w3.setCell ⟨w.heap.size + 1, 0, none⟩ (.int .i64 0)).cell? ⟨w.heap.size, 0, none⟩ = some (.int .i64 (n : Int)) := (o1 _ _ (ab_ne (by omega))).trans ((hb3.cell hltD).trans g4.1)
  have m1 : (w3.setCell ⟨w.heap.size + 1, 0, none⟩ (.int .i64 0)).cell? ⟨w.heap.size, 1, none⟩ = some (.slice p dl c) := (o1 _ _ (ab_ne (by omega))).trans ((hb3.cell (World.block_lt_of_cell? _ _ g4.2.1)).trans g4.2.1)
  have m2 : (w3.setCell ⟨w.heap.size + 1, 0, none⟩ (.int .i64 0)).cell? ⟨w.heap.size, 2, none⟩ = some (.slice q 0 m) := (o1 _ _ (ab_ne (by omega))).trans ((hb3.cell (World.block_lt_of_cell? _ _ g4.2.2)).trans g4.2.2)
  have k3 : DiskF w.heap.size (w3.setCell ⟨w.heap.size + 1, 0, none⟩ (.int .i64 0)) (.agg #[.int .i64 (n : Int), .slice p dl c, .slice q 0 m]) (n : Int) D [] := HF.out.2.up (by omega) (by have := hb3.size; simp; omega) (fun k k1 k2 => (set_keep (by omega)).trans ((hb3.block k (by omega)).trans (hoW k k1)))
  generalize w3.setCell ⟨w.heap.size + 1, 0, none⟩ (.int .i64 0) = w4 at *
  simp [Leaves, settle, results, Tryz.results18, go_sem, k1, m0, m1, m2]
  exact ⟨⟨_, D, rfl, HF.out.1, k3, k2⟩⟩
end Go.Proofs.YtkgmhmhphgaclabGreatDoor
namespace Go.Proofs.YtkgmhmhphgaclabGreatDoor
open Go.RowKit Go.WideShapes Rm

theorem chg_under (w : World) (cs : Array Value) (t : TypeId) (o : Obj) : ((w.alloc (.cells cs t)).alloc o).heap[w.heap.size]? = some (.cells cs t (0, 0)) := ((below_alloc (w.alloc (.cells cs t)) o).block _ (by simp)).trans (heap_alloc_new w _)
theorem chg_over (w : World) (cs : Array Value) (t : TypeId) (o : Obj) : ((w.alloc o).alloc (.cells cs t)).heap[w.heap.size + 1]? = some (.cells cs t (0, 0)) := by
  have h := heap_alloc_new (w.alloc o) (.cells cs t)
  simpa using h
theorem a_beq : (aName == aName) = true := by decide +kernel
theorem want_a (n : Nat) : wantN ltB [] ([aFile n].map toV) = [(aName, numsOf (textS n))] := rfl
/-- Behind the turn Get tells the file's bytes. -/
theorem alive_get {D D2 : List Nat} {y : DirV} {s : Int} (n : Nat) (h : filesD D2 [] y = wantN ltB (filesD D [] emptyD) ([aFile n].map toV)) : getN D2 [] (some (y, s)) 0 aName = (0, numsOf (textS n)) := by
  have e : filesD D [] emptyD = [] := rfl
  rw [e, want_a] at h
  unfold filesD at h
  obtain ⟨f, hf⟩ : ∃ f, y.files = [f] := by
    cases hy : y.files with
    | nil => rw [hy] at h; cases h
    | cons f l =>
      cases l with
      | nil => exact ⟨f, rfl⟩
      | cons g l => rw [hy] at h; simp at h
  rw [hf] at h
  simp only [List.map_cons, List.map_nil, List.cons.injEq, Prod.mk.injEq, and_true] at h
  unfold getN
  dsimp only
  rw [if_pos a_name]
  have hfd : findN y.files aName = some 0 := by
    unfold findN
    rw [hf]
    simp [h.1, a_beq]
  rw [hfd]
  simp only
  rw [hf]
  exact congrArg (Prod.mk 0) h.2
theorem chg_a {w : World} {g : Nat} (n : Nat) (h : w.heap[g]? = some (.cells #[.string aName, .string (textS n), .bool false] 52 (0, 0))) : ChgIn w (some ⟨g, 0, none⟩) 1 1 [aFile n] := by
  obtain ⟨c0, c1, c2⟩ := three_cells h
  refine ⟨fun _ => ⟨g, 0, rfl, fun i hi => ?_⟩, rfl, Nat.le_refl _, by decide, fun y hy => ?_⟩
  · obtain rfl : i = 0 := by simp at hi; exact hi
    exact ⟨c0, c1, c2⟩
  · rw [List.mem_singleton.1 hy]
    show (aName.size : Int) ≤ _
    decide
/-- What turned answers in alive. -/
structure TdA (w : World) (n : Nat) (e : Ending) (w' : World) : Prop where
  ex : ∃ q1 n1 m1 q2 n2 m2 D2 y s, e = .returned (.tuple #[.agg #[.int .i64 100, .slice q1 n1 m1, .slice q2 n2 m2], .int .i64 0]) ∧ Below w.heap.size w w' ∧ DiskF w.heap.size w' (.agg #[.int .i64 100, .slice q1 n1 m1, .slice q2 n2 m2]) 100 D2 [] ∧ MountIs 100 D2 [] (some (y, s)) 0 ∧ getN D2 [] (some (y, s)) 0 aName = (0, numsOf (textS n))
theorem turned_a (v : Value) (D : List Nat) (g : Nat) (w : World) (hL : Laid w) (hD : FmtIs 100 D) (hd : DiskIn w v 100 D []) (h : w.heap[g]? = some (.cells #[.string aName, .string (textS 130), .bool false] 52 (0, 0))) :
    Calls Tryz.prog 9 #[v, .slice (some ⟨g, 0, none⟩) 1 1] w fun e w' => TdA w 130 e w' := by
  have hm : MountIs 100 D [] (some (emptyD, 0)) 0 := fmt_mount (n := 100) (by decide) (by decide) hD
  have hok0 : Okay 100 D [] := fmt_okay (n := 100) (by decide) (by decide) hD
  refine (turned_any v 100 D [] (some ⟨g, 0, none⟩) 1 1 [aFile 130] w hL hd _ 0 hm (chg_a 130 h) (fun y hy => ?_)).mono ?_
  · rw [List.mem_singleton.1 hy]
    show ((textS 130).size : Int) ≤ _
    rw [textS_size]
    decide
  · rintro e w' ⟨m, A, c0, q1, n1, m1, q2, n2, m2, E, hS, rfl, hb, hc⟩
    obtain ⟨hm0, hAl⟩ := alive_turn hD hS
    subst hm0
    rcases hc with ⟨h0, _⟩ | ⟨_, hE, hdi⟩
    · exact absurd rfl h0
    · obtain ⟨x, y, at_, other, fs, hr, hok⟩ := turnIs_ok hm hS
      obtain ⟨D2, e1, ok2, m2', f2⟩ := turn_result hok (by simp; omega)
      have hdo : doAny 100 D [] A = .ok (D2, []) := by rw [doAny_ok _ hok0]; exact e1
      rw [hdo] at hE hdi
      simp only [resE, resC, resD, resW] at hE hdi
      subst hE
      have hc0 : c0 = 100 := by
        obtain ⟨_, _, _, _, e, _⟩ := hdi.self.parts
        simp only [Value.agg.injEq] at e
        have := congrArg (fun a : Array Value => a[0]?) e
        simpa using this
      subst hc0
      have hx : x = emptyD := by
        simp only [Option.some.injEq, Prod.mk.injEq] at hr
        exact hr.1.symm
      subst hx
      exact ⟨⟨q1, n1, m1, q2, n2, m2, D2, y, _, rfl, hb, hdi, m2', alive_get 130 f2⟩⟩
/-- A new box of a disk, still nought. -/
def ZX (w : World) (g : Nat) : Prop := w.heap[g]? = some (.cells #[.int .i64 0, .slice none 0 0, .slice none 0 0] 25 (0, 0))
structure ZF (w : World) (g : Nat) : Prop where
  a : ZX w g
/-- The box lies under base. -/
structure ZH (w : World) (g base : Nat) : Prop where
  a : ZF w g
  b : g < base
theorem zx_new {G : Prop} {w w' : World} (h : Below (w.alloc (.cells #[.int .i64 0, .slice none 0 0, .slice none 0 0] 25)).heap.size (w.alloc (.cells #[.int .i64 0, .slice none 0 0, .slice none 0 0] 25)) w' → ZF w' w.heap.size → G) : Below (w.alloc (.cells #[.int .i64 0, .slice none 0 0, .slice none 0 0] 25)).heap.size (w.alloc (.cells #[.int .i64 0, .slice none 0 0, .slice none 0 0] 25)) w' → G :=
  fun hb => h hb ⟨(hb.block _ (by simp)).trans (heap_alloc_new w _)⟩
theorem zx_newD {G : Prop} {w w' : World} (h : Below (w.alloc (.cells #[.int .i64 0, .slice none 0 0, .slice none 0 0] 25)).drew.heap.size (w.alloc (.cells #[.int .i64 0, .slice none 0 0, .slice none 0 0] 25)).drew w' → ZF w' w.heap.size → G) : Below (w.alloc (.cells #[.int .i64 0, .slice none 0 0, .slice none 0 0] 25)).drew.heap.size (w.alloc (.cells #[.int .i64 0, .slice none 0 0, .slice none 0 0] 25)).drew w' → G :=
  fun hb => h hb ⟨(((below_drC hb)).block _ (by simp)).trans (heap_alloc_new w _)⟩
theorem zx_newC {G : Prop} {w w' : World} {cs : Array Value} {t : TypeId} (h : Below ((w.alloc (.cells cs t)).alloc (.cells #[.int .i64 0, .slice none 0 0, .slice none 0 0] 25)).heap.size ((w.alloc (.cells cs t)).alloc (.cells #[.int .i64 0, .slice none 0 0, .slice none 0 0] 25)) w' → ZH w' (w.heap.size + 1) ((w.alloc (.cells cs t)).alloc (.cells #[.int .i64 0, .slice none 0 0, .slice none 0 0] 25)).heap.size → G) : Below ((w.alloc (.cells cs t)).alloc (.cells #[.int .i64 0, .slice none 0 0, .slice none 0 0] 25)).heap.size ((w.alloc (.cells cs t)).alloc (.cells #[.int .i64 0, .slice none 0 0, .slice none 0 0] 25)) w' → G :=
  fun hb => h hb ⟨by
    have h1 := heap_alloc_new (w.alloc (.cells cs t)) (.cells #[.int .i64 0, .slice none 0 0, .slice none 0 0] 25)
    have h2 : ((w.alloc (.cells cs t)).alloc (.cells #[.int .i64 0, .slice none 0 0, .slice none 0 0] 25)).heap[w.heap.size + 1]? = some (.cells #[.int .i64 0, .slice none 0 0, .slice none 0 0] 25 (0, 0)) := by simpa using h1
    exact ⟨(hb.block _ (lt_heap h2)).trans h2⟩, by rw [World.size_alloc, World.size_alloc]; exact Nat.lt_succ_self _⟩
theorem zx_under {G : Prop} {w w' : World} {cs : Array Value} {t : TypeId} (h : Below ((w.alloc (.cells #[.int .i64 0, .slice none 0 0, .slice none 0 0] 25)).alloc (.cells cs t)).heap.size ((w.alloc (.cells #[.int .i64 0, .slice none 0 0, .slice none 0 0] 25)).alloc (.cells cs t)) w' → ZH w' w.heap.size ((w.alloc (.cells #[.int .i64 0, .slice none 0 0, .slice none 0 0] 25)).alloc (.cells cs t)).heap.size → G) : Below ((w.alloc (.cells #[.int .i64 0, .slice none 0 0, .slice none 0 0] 25)).alloc (.cells cs t)).heap.size ((w.alloc (.cells #[.int .i64 0, .slice none 0 0, .slice none 0 0] 25)).alloc (.cells cs t)) w' → G :=
  fun hb => h hb ⟨by
    have h2 := chg_under w #[.int .i64 0, .slice none 0 0, .slice none 0 0] 25 (.cells cs t)
    exact ⟨(hb.block _ (lt_heap h2)).trans h2⟩, by rw [World.size_alloc, World.size_alloc]; omega⟩
theorem ZF.next {w w' : World} {g : Nat} (h : ZF w g) (hb : Below w.heap.size w w') : ZF w' g := ⟨(hb.block _ (lt_heap h.a)).trans h.a⟩
theorem ZF.cells {w : World} {g : Nat} (h : ZF w g) : (w.cell? ⟨g, 0, none⟩ = some (.int .i64 0) ∧ w.cell? ⟨g, 1, none⟩ = some (.slice none 0 0) ∧ w.cell? ⟨g, 2, none⟩ = some (.slice none 0 0)) ∧ w.frozen? ⟨g, 0, none⟩ = false ∧ w.frozen? ⟨g, 1, none⟩ = false ∧ w.frozen? ⟨g, 2, none⟩ = false := cells3f h.a
theorem zx_no {G P : Prop} (h : P → True → G) : P → G := fun p => h p trivial
theorem zx_keep {G : Prop} {w w' : World} {g : Nat} (h : Below w.heap.size w w' → ZF w' g → G) : ZF w g → Below w.heap.size w w' → G := fun z b => h b (z.next b)
theorem zx_keepC {G : Prop} {w w' : World} {g : Nat} {o : Obj} (h : Below (w.alloc o).heap.size (w.alloc o) w' → ZH w' g (w.alloc o).heap.size → G) : ZF w g → Below (w.alloc o).heap.size (w.alloc o) w' → G := fun z b => h b ⟨z.next (below_bt (below_alloc _ _) b), by have := lt_heap z.a; rw [World.size_alloc]; omega⟩
theorem below3 {base g : Nat} {w0 w : World} (h : Below base w0 w) (hg : base ≤ g) (a b c : Value) : Below base w0 (((w.setCell ⟨g, 0, none⟩ a).setCell ⟨g, 1, none⟩ b).setCell ⟨g, 2, none⟩ c) := below_setR _ _ (below_setR _ _ (below_setR _ _ h hg) hg) hg
theorem zx_drop {G P : Prop} (h : P → G) : True → P → G := fun _ p => h p
set_option maxRecDepth 8000 in
set_option maxHeartbeats 12000000 in
theorem alive_t (w : World) (hL : Laid w) : Calls Tryz.prog 6 #[] w fun e w' => e = .returned (.bool true) ∧ Below w.heap.size w w' := by
  have HL : Hid (Laid w) := hL
  have hf := Format_ok 100 w hL (by decide) (by decide)
  clear hL
  go_enter Tryz.func6, Tryz.ntmps6
  go_wp2_with fail
  refine hf.mono ?_
  rintro e w1 ⟨v1, D, rfl, hD, hF1, hb1⟩
  obtain ⟨p, c, q, m, hv1, _⟩ := hF1.self.parts
  subst hv1
  simp only [List.length_nil] at hF1 ⊢
  obtain ⟨dl, hdl⟩ : ∃ k, D.length = k := ⟨_, rfl⟩
  rw [hdl] at hF1 ⊢
  have HB1 : Hid (Below w.heap.size w w1) := hb1
  obtain ⟨wB, hwB⟩ : ∃ wB, w1.alloc (.cells #[.int .i64 100, .slice p dl c, .slice q 0 m] 25) = wB := ⟨_, rfl⟩
  have HBB : Hid (Below w1.heap.size w1 wB) := by show Below _ _ _; rw [← hwB]; exact below_alloc _ _
  have HBX : Hid (wB.heap[w1.heap.size]? = some (.cells #[.int .i64 100, .slice p dl c, .slice q 0 m] 25 (0, 0))) := by show _ = _; rw [← hwB]; exact heap_alloc_new _ _
  have HKS : Hid (∀ w', Below wB.heap.size wB w' → (w'.cell? ⟨w1.heap.size, 0, none⟩ = some (.int .i64 100) ∧ w'.cell? ⟨w1.heap.size, 1, none⟩ = some (.slice p dl c) ∧ w'.cell? ⟨w1.heap.size, 2, none⟩ = some (.slice q 0 m)) ∧ Below wB.heap.size wB w') := fun w' hb => ⟨three_cells ((hb.block _ (lt_heap HBX.out)).trans HBX.out), hb⟩
  have HTD : Hid (∀ w' g, Below wB.heap.size wB w' → w'.heap[g]? = some (.cells #[.string ⟨#[97]⟩, .string (textS 130), .bool false] 52 (0, 0)) → Calls Tryz.prog 9 #[.agg #[.int .i64 100, .slice p dl c, .slice q 0 m], .slice (some ⟨g, 0, none⟩) 1 1] w' fun e w'' => TdA w' 130 e w'') := fun w' g hb hg => turned_a _ D g w' (HL.out.below (below_bt HB1.out (below_bt HBB.out hb))) hD (hF1.below (below_bt HBB.out hb)) hg
  have HTX : Hid (∀ w', Calls Tryz.prog 20 #[.int .i64 130] w' fun e w'' => e = .returned (.string (textS 130)) ∧ Below w'.heap.size w' w'') := fun w' => text_t 130 w' (by decide)
  clear hf hD hF1 hb1 hdl
  go_upto_region 2 with fail
  (try rw [hwB])
  clear hwB
  obtain ⟨⟨x0, x1, x2⟩, _⟩ := HKS.out wB (Below.refl _ _)
  go_region_held3 (fun w' => (w'.cell? ⟨w1.heap.size, 0, none⟩ = some (.int .i64 100) ∧ w'.cell? ⟨w1.heap.size, 1, none⟩ = some (.slice p dl c) ∧ w'.cell? ⟨w1.heap.size, 2, none⟩ = some (.slice q 0 m)) ∧ Below wB.heap.size wB w')
    (with_reducible first | exact HKS.out _ (Below.refl _ _).drew | exact HKS.out _ (Below.refl _ _) | exact HKS.out _ (below_alloc _ _).drew | exact HKS.out _ (below_alloc _ _) | exact HKS.out _ (below3 hB4 (Nat.le_succ_of_le hB3.size) _ _ _) | exact HKS.out _ (below3 hB4 hB3.size _ _ _) | exact HKS.out _ (below3 hB4 hB2.size _ _ _) | exact HKS.out _ (below3 hB4 (Nat.le_refl _) _ _ _) | exact HKS.out _ hB4 | exact HKS.out _ (below_bt hB4 (below_alloc _ _)) | exact HKS.out _ hB3 | exact HKS.out _ (below_bt hB3 (below_alloc _ _)) | exact HKS.out _ (below_bt hB3 (below_bt (below_alloc _ _) (below_alloc _ _))) | exact HKS.out _ hB2 | exact HKS.out _ (below_bt hB2 (below_alloc _ _)) | assumption)
    (first
    | (go_at_call 20; refine (HTX.out _).mono ?_; rintro e w2 ⟨rfl, hb2⟩; revert hb2; (first | (refine zx_new ?_; intro hb2 hz2; obtain ⟨⟨i0, i1, i2⟩, j0, j1, j2⟩ := hz2.cells) | (refine zx_newD ?_; intro hb2 hz2; obtain ⟨⟨i0, i1, i2⟩, j0, j1, j2⟩ := hz2.cells) | (refine zx_no ?_; intro hb2 hz2)); have hB2 : Below wB.heap.size wB w2 := (by first | exact hb2 | exact below_drC hb2 | exact below_bt (below_alloc _ _) hb2 | exact below_bt (below_alloc _ _) (below_drC hb2)))
    | (go_at_call 19; refine (put_t _ _ _).mono ?_; rintro e w3 ⟨rfl, hb3⟩; revert hz2 hb3; (first | (refine zx_keep ?_; intro hb3 hz3; obtain ⟨⟨i0, i1, i2⟩, j0, j1, j2⟩ := hz3.cells) | (refine zx_drop ?_; (first | (refine zx_new ?_; intro hb3 hz3; obtain ⟨⟨i0, i1, i2⟩, j0, j1, j2⟩ := hz3.cells) | (refine zx_no ?_; intro hb3 hz3)))); have hB3 : Below wB.heap.size wB w3 := below_bt hB2 (by first | exact hb3 | exact below_drC hb3 | exact below_bt (below_alloc _ _) hb3 | exact below_bt (below_alloc _ _) (below_drC hb3)))
    | (go_at_call 9; go_loud (refine (HTD.out _ _ (below_bt hB3 (by first | exact below_alloc _ _ | exact (below_alloc _ _).drew | exact below_bt (below_alloc _ _) (below_alloc _ _) | exact (below_bt (below_alloc _ _) (below_alloc _ _)).drew)) (by first | exact heap_alloc_new _ _ | exact chg_under _ _ _ _ | exact chg_over _ _ _ _)).mono ?_; rintro e w4 ⟨q1, n1, m1, q2, n2, m2, D2, y, s, rfl, hb4, hd4, hm4, hg4⟩; revert hz3 hb4; (first | (refine zx_keepC ?_; intro hb4 hz4; obtain ⟨⟨i0, i1, i2⟩, j0, j1, j2⟩ := hz4.a.cells) | (refine zx_drop ?_; (first | (refine zx_newC ?_; intro hb4 hz4; obtain ⟨⟨i0, i1, i2⟩, j0, j1, j2⟩ := hz4.a.cells) | (refine zx_under ?_; intro hb4 hz4; obtain ⟨⟨i0, i1, i2⟩, j0, j1, j2⟩ := hz4.a.cells) | (refine zx_no ?_; intro hb4 hz4)))); have hB4 : Below wB.heap.size wB w4 := below_bt hB3 (by first | exact below_bt (below_alloc _ _) hb4 | exact below_bt (below_bt (below_alloc _ _) (below_alloc _ _)) hb4 | exact below_bt (below_alloc _ _) (below_drC hb4))))
    | fail)
  all_goals
    rename_i hh
    have HBF : Hid _ := below_bt HB1.out (below_bt HBB.out hh.2)
    have HM4 : Hid (MountIs 100 D2 [] (some (y, s)) 0 ∧ getN D2 [] (some (y, s)) 0 aName = (0, numsOf (textS 130))) := ⟨hm4, hg4⟩
    have HD4 : Hid _ := hd4
    clear hm4 hg4 hd4
    go_wp2_with fail
    refine (Get_any _ aName 100 D2 [] _ (HL.out.below HBF.out) (by first | exact DiskF.set3 HD4.out hz4.b _ _ _ | exact DiskF.below HD4.out (below_alloc _ _)) (by decide) _ 0 HM4.out.1 0 _ HM4.out.2).mono ?_
    rintro e w5 ⟨⟨lv, rfl, hown⟩, hb5⟩
    obtain ⟨q5, m5, rfl, _, _, _⟩ := own_form hown
    have hln : (numsOf (textS 130)).length = 130 := by rw [numsOf_len, textS_size]
    rw [hln] at hown ⊢
    have HCV : Hid (∀ w', Below w5.heap.size w5 w' → (convert 22 9 (.slice q5 130 m5)).run Tryz.prog w' = .ok (.string (textS 130)) w' ∧ Below w5.heap.size w5 w') := fun w' hb => ⟨by
      have h1 : BIn w' q5 (numsOf (textS 130)) := own_at (own_below hown hb) hln.symm (numsOf_lt _)
      have h2 := conv_at (c := m5) h1 hln.symm
      rw [strOf_nums] at h2
      exact h2, hb⟩
    have HBG : Hid (Below w.heap.size w w5) := below_bt HBF.out hb5
    clear hown hh hb5
    go_upto_region 4 with fail
    obtain ⟨cv5, _⟩ := HCV.out w5 (Below.refl _ _)
    go_region_held3 (fun w' => (convert 22 9 (.slice q5 130 m5)).run Tryz.prog w' = .ok (.string (textS 130)) w' ∧ Below w5.heap.size w5 w')
      (with_reducible first | exact HCV.out _ (Below.refl _ _).drew | exact HCV.out _ (Below.refl _ _) | exact HCV.out _ hb6 | exact HCV.out _ (below_drC hb6) | assumption)
      (first
        | (go_at_call 20; refine (HTX.out _).mono ?_; rintro e w6 ⟨rfl, hb6⟩)
        | fail)
    rename_i hF
    have HBZ : Hid _ := below_bt HBG.out hF.2
    clear hF
    go_wp2
    go_ret
    exact ⟨rfl, HBZ.out⟩
end Go.Proofs.YtkgmhmhphgaclabGreatDoor
namespace Go.Proofs.YtkgmhmhphgaclabGreatDoor
open Go.RowKit Go.WideShapes Rm

theorem wrote_dir {x : DirV} {b : List Nat} (h : Wrote x 0 b) : IsDir ltS x b := by
  cases h with
  | ok h1 h2 => exact ⟨h1, h2, rfl⟩
theorem dir_wrote {x : DirV} {b : List Nat} (h : IsDir ltS x b) : Wrote x 0 b := by
  obtain ⟨h1, h2, rfl⟩ := h
  exact .ok h1 h2
theorem fown_dir {w : World} {base : Nat} {v : Value} {ls : FPs} {x : DirV} (h : FOwn w base v ls) (hm : May ltS x) (hl : ls.map Prod.fst = x.files) : DirIn w (.agg #[.int .i64 x.gen, v]) x := by
  have hf := hm.fin
  have := h.fin (fun y hy => (hf _ (by rw [← hl]; exact List.mem_map_of_mem hy)).2) (fun y hy => (hf _ (by rw [← hl]; exact List.mem_map_of_mem hy)).1)
  rw [hl] at this
  exact ⟨⟨v, rfl, this⟩, ⟨by have := hm.lo; omega, by have := hm.hi; omega⟩⟩
set_option maxRecDepth 20000 in
set_option maxHeartbeats 4000000 in
theorem law_back (v : Value) (x : DirV) (p : Option Addr) (c : Nat) (xs : List Nat) (w : World) (hL : Laid w) (hx : DirIn w v x) (hnm : ∀ f ∈ x.files, (f.name.size : Int) ≤ 9223372036854775807) (hsum : (allPcs x.files).length ≤ 1000000) (hb : BIn w p xs) (hc : xs.length ≤ c) (hcm : c ≤ maxLen) :
    Calls Tryz.prog 5 #[v, .slice p xs.length c] w fun e w' => e = .returned (.bool true) ∧ Below w.heap.size w w' := by
  obtain ⟨fv, rfl, hf⟩ := hx.lies
  have HX : Hid (DirIn w (.agg #[.int .i64 x.gen, fv]) x) := hx
  have HL : Hid (Laid w) := hL
  have HB : Hid (BIn w p xs) := hb
  have HCM : Hid (xs.length ≤ c ∧ c ≤ maxLen) := ⟨hc, hcm⟩
  have HS : Hid ((∀ f ∈ x.files, (f.name.size : Int) ≤ 9223372036854775807) ∧ (allPcs x.files).length ≤ 1000000) := ⟨hnm, hsum⟩
  obtain ⟨gen, l⟩ := x
  obtain ⟨q, cf, rfl, hq, hlc, hcf, _⟩ := hf.lies
  unfold maxLen at hcf hcm
  simp only at hlc
  clear hx hf hq hL hb hnm hsum
  obtain ⟨w0, hw0⟩ : ∃ w0, w.alloc (.cells #[.int .i64 gen, .slice q l.length cf] 43) = w0 := ⟨_, rfl⟩
  have HB0 : Hid (Below w.heap.size w w0) := by show Below _ _ _; rw [← hw0]; exact below_alloc _ _
  have HX0 : Hid (w0.heap[w.heap.size]? = some (.cells #[.int .i64 gen, .slice q l.length cf] 43 (0, 0))) := by show _ = _; rw [← hw0]; exact heap_alloc_new _ _
  have hal := alive_t w0 (HL.out.below HB0.out)
  go_enter Tryz.func5, Tryz.ntmps5
  go_upto_region 1 with fail
  (try rw [hw0])
  clear hw0
  go_wp2_with fail
  refine hal.mono ?_
  rintro e w1 ⟨rfl, hb1⟩
  have HB1 : Hid (Below w.heap.size w w1) := below_bt HB0.out hb1
  have HX1 : Hid (w1.heap[w.heap.size]? = some (.cells #[.int .i64 gen, .slice q l.length cf] 43 (0, 0))) := (hb1.block _ (lt_heap HX0.out)).trans HX0.out
  have d0 : w1.cell? ⟨w.heap.size, 0, none⟩ = some (.int .i64 gen) := cell_of_row _ _ _ _ _ _ HX1.out
  have d1 : w1.cell? ⟨w.heap.size, 1, none⟩ = some (.slice q l.length cf) := cell_of_row _ _ _ _ _ _ HX1.out
  clear hal hb1
  by_cases h1 : l.length ≤ 100
  · by_cases h2 : xs.length ≤ 5000
    · have hw := Write_any _ ⟨gen, l⟩ w1 (HL.out.below HB1.out) (HX.out.below HB1.out) HS.out.1 HS.out.2
      go_wp2_with fail
      refine hw.mono ?_
      rintro e w2 ⟨rp, n2, b2, rfl, hw2, ho2, hb2⟩
      obtain ⟨q2, m2, rfl, hm2a, hm2b, _⟩ := own_form ho2
      have HB2 : Hid (Below w.heap.size w w2) := below_bt HB1.out hb2
      have HX2 : Hid (w2.heap[w.heap.size]? = some (.cells #[.int .i64 gen, .slice q l.length cf] 43 (0, 0))) := (hb2.block _ (lt_heap HX1.out)).trans HX1.out
      clear hw d0 d1 hb2
      by_cases hn : n2 = 0
      · subst hn
        have HBL : Hid (b2.length = 1024) := wrote_len hw2
        have HI2 : Hid (BIn w2 q2 b2) := own_in ho2 (wrote_bytes hw2)
        have HW2 : Hid (Wrote ⟨gen, l⟩ 0 b2) := hw2
        have hrd := Read_any q2 m2 b2 w2 (HL.out.below HB2.out) HI2.out hm2a hm2b
        clear hw2 ho2
        go_wp2_with fail
        refine hrd.mono ?_
        rintro e3 w3 hr3
        clear hrd
        rcases hr3 with ⟨x3, ls, lv, hx3, hl3, rfl, hf3, hb3⟩ | ⟨hno, rfl, hb3⟩
        · have he := isDir_only hx3 (wrote_dir HW2.out)
          subst he
          obtain ⟨ql, ml, rfl, _⟩ := hf3.form
          have HLL : Hid (ls.length = l.length) := by
            have h := congrArg List.length hl3
            rw [List.length_map] at h
            exact h
          have HB4 : Hid (Below w.heap.size w (w3.alloc (.cells #[.int .i64 gen, .slice ql ls.length ml] 43))) := below_bt (below_bt HB2.out hb3) (below_alloc _ _)
          have HY4 : Hid ((w3.alloc (.cells #[.int .i64 gen, .slice ql ls.length ml] 43)).heap[w3.heap.size]? = some (.cells #[.int .i64 gen, .slice ql ls.length ml] 43 (0, 0))) := heap_alloc_new _ _
          have HX4 : Hid ((w3.alloc (.cells #[.int .i64 gen, .slice ql ls.length ml] 43)).heap[w.heap.size]? = some (.cells #[.int .i64 gen, .slice q l.length cf] 43 (0, 0))) := ((below_bt hb3 (below_alloc _ _)).block _ (lt_heap HX2.out)).trans HX2.out
          have HI4 : Hid (BIn (w3.alloc (.cells #[.int .i64 gen, .slice ql ls.length ml] 43)) q2 b2) := HI2.out.below (below_bt hb3 (below_alloc _ _))
          have hwr := Write_any _ ⟨gen, l⟩ (w3.alloc (.cells #[.int .i64 gen, .slice ql ls.length ml] 43)) (HL.out.below HB4.out) (fown_dir (hf3.below (below_alloc _ _)) hx3.1 hl3) HS.out.1 HS.out.2
          clear hf3 hb3 hx3 hl3
          go_wp2_with fail
          refine hwr.mono ?_
          rintro e w4 ⟨r4, n4, b4, rfl, hw4, ho4, hb4⟩
          obtain ⟨e4, f4⟩ := HW2.out.only hw4
          subst e4
          subst f4
          obtain ⟨q4, m4, rfl, _, _, _⟩ := own_form ho4
          obtain ⟨wz, rfl⟩ : ∃ wz, wz = w4 := ⟨_, rfl⟩
          have HBz : Hid (Below w.heap.size w wz) := below_bt HB4.out hb4
          have HYz : Hid _ := (hb4.block _ (lt_heap HY4.out)).trans HY4.out
          have HXz : Hid _ := (hb4.block _ (lt_heap HX4.out)).trans HX4.out
          have k1 : (convert 22 9 (.slice q4 b2.length m4)).run Tryz.prog wz = .ok (.string (strOf b2)) wz := conv_at (own_in ho4 (wrote_bytes HW2.out)) rfl
          have k2 : (convert 22 9 (.slice q2 b2.length m2)).run Tryz.prog wz = .ok (.string (strOf b2)) wz := conv_at (HI4.out.below hb4) rfl
          have hbl := HBL.out
          rw [hbl] at k1 k2 ⊢
          have hll := HLL.out
          have y0 : wz.cell? ⟨w3.heap.size, 0, none⟩ = some (.int .i64 gen) := cell_of_row _ _ _ _ _ _ HYz.out
          have y1 : wz.cell? ⟨w3.heap.size, 1, none⟩ = some (.slice ql ls.length ml) := cell_of_row _ _ _ _ _ _ HYz.out
          rw [hll] at y1 ⊢
          have d0 : wz.cell? ⟨w.heap.size, 0, none⟩ = some (.int .i64 gen) := cell_of_row _ _ _ _ _ _ HXz.out
          have d1 : wz.cell? ⟨w.heap.size, 1, none⟩ = some (.slice q l.length cf) := cell_of_row _ _ _ _ _ _ HXz.out
          clear hwr hw4 ho4 hb4 hbl hll
          have hrd2 := Read_any p c xs wz (HL.out.below HBz.out) (HB.out.below HBz.out) HCM.out.1 HCM.out.2
          go_wp2_with fail
          refine hrd2.mono ?_
          rintro e5 w5 hr5
          clear hrd2
          rcases hr5 with ⟨x5, ks, lv5, hx5, hl5, rfl, hf5, hb5⟩ | ⟨hno5, rfl, hb5⟩
          · obtain ⟨q5, m5, rfl, _⟩ := hf5.form
            have HB6 : Hid (Below w.heap.size w (w5.alloc (.cells #[.int .i64 x5.gen, .slice q5 ks.length m5] 43))) := below_bt (below_bt HBz.out hb5) (below_alloc _ _)
            have hwr2 := Write_any _ x5 (w5.alloc (.cells #[.int .i64 x5.gen, .slice q5 ks.length m5] 43)) (HL.out.below HB6.out) (fown_dir (hf5.below (below_alloc _ _)) hx5.1 hl5) (fun f hf => by have := hx5.1.told.name f hf; omega) (by have := (errK_zero hx5.1.pcs).2.1; omega)
            clear hf5 hb5
            go_wp2_with fail
            refine hwr2.mono ?_
            rintro e w6 ⟨r6, n6, b6, rfl, hw6, ho6, hb6⟩
            obtain ⟨e6, f6⟩ := (dir_wrote hx5).only hw6
            subst e6
            subst f6
            obtain ⟨q6, m6, rfl, _, _, _⟩ := own_form ho6
            have HB7 : Hid (Below w.heap.size w w6) := below_bt HB6.out hb6
            have c1 : (convert 22 9 (.slice q6 xs.length m6)).run Tryz.prog w6 = .ok (.string (strOf xs)) w6 := conv_at (own_in ho6 HB.out.2) rfl
            have c2 : (convert 22 9 (.slice p xs.length c)).run Tryz.prog w6 = .ok (.string (strOf xs)) w6 := conv_at (HB.out.below HB7.out) rfl
            clear hwr2 hw6 ho6 hb6 hx5 hl5
            go_wp2
            go_ret
            exact ⟨rfl, HB7.out⟩
          · have HB6 : Hid (Below w.heap.size w w5) := below_bt HBz.out hb5
            clear hno5 hb5
            go_wp2
            go_ret
            exact ⟨rfl, below_bt HB6.out (below_alloc _ _)⟩
        · exact absurd (wrote_dir HW2.out) (hno _)
      · have hnb : (n2 == 0) = false := by simpa using hn
        obtain ⟨wz, rfl⟩ : ∃ wz, wz = w2 := ⟨_, rfl⟩
        have HBz : Hid (Below w.heap.size w wz) := HB2.out
        clear hw2 ho2
        have hrd2 := Read_any p c xs wz (HL.out.below HBz.out) (HB.out.below HBz.out) HCM.out.1 HCM.out.2
        go_wp2_with fail
        refine hrd2.mono ?_
        rintro e5 w5 hr5
        clear hrd2
        rcases hr5 with ⟨x5, ks, lv5, hx5, hl5, rfl, hf5, hb5⟩ | ⟨hno5, rfl, hb5⟩
        · obtain ⟨q5, m5, rfl, _⟩ := hf5.form
          have HB6 : Hid (Below w.heap.size w (w5.alloc (.cells #[.int .i64 x5.gen, .slice q5 ks.length m5] 43))) := below_bt (below_bt HBz.out hb5) (below_alloc _ _)
          have hwr2 := Write_any _ x5 (w5.alloc (.cells #[.int .i64 x5.gen, .slice q5 ks.length m5] 43)) (HL.out.below HB6.out) (fown_dir (hf5.below (below_alloc _ _)) hx5.1 hl5) (fun f hf => by have := hx5.1.told.name f hf; omega) (by have := (errK_zero hx5.1.pcs).2.1; omega)
          clear hf5 hb5
          go_wp2_with fail
          refine hwr2.mono ?_
          rintro e w6 ⟨r6, n6, b6, rfl, hw6, ho6, hb6⟩
          obtain ⟨e6, f6⟩ := (dir_wrote hx5).only hw6
          subst e6
          subst f6
          obtain ⟨q6, m6, rfl, _, _, _⟩ := own_form ho6
          have HB7 : Hid (Below w.heap.size w w6) := below_bt HB6.out hb6
          have c1 : (convert 22 9 (.slice q6 xs.length m6)).run Tryz.prog w6 = .ok (.string (strOf xs)) w6 := conv_at (own_in ho6 HB.out.2) rfl
          have c2 : (convert 22 9 (.slice p xs.length c)).run Tryz.prog w6 = .ok (.string (strOf xs)) w6 := conv_at (HB.out.below HB7.out) rfl
          clear hwr2 hw6 ho6 hb6 hx5 hl5
          go_wp2
          go_ret
          exact ⟨rfl, HB7.out⟩
        · have HB6 : Hid (Below w.heap.size w w5) := below_bt HBz.out hb5
          clear hno5 hb5
          go_wp2
          go_ret
          exact ⟨rfl, below_bt HB6.out (below_alloc _ _)⟩
    · have h3 : ¬ ((xs.length : Int) ≤ 5000) := by omega
      go_wp2
      go_ret
      exact ⟨rfl, HB1.out⟩
  · have h3 : ¬ ((l.length : Int) ≤ 100) := by omega
    go_wp2
    go_ret
    exact ⟨rfl, HB1.out⟩
end Go.Proofs.YtkgmhmhphgaclabGreatDoor
namespace Go.Proofs.YtkgmhmhphgaclabGreatDoor
open Go.RowKit Go.WideShapes Go.ChangeShapes Go.Deep Go.Joins Rm

theorem bulk_one {H : Type} (d : DataW H) : 1 ≤ Rows.uptoBulk d := by
  cases d with
  | lit v => cases v <;> simp [Rows.uptoBulk]
  | _ => simp [Rows.uptoBulk]
theorem bulk_app {H : Type} (l r : List (DataW H)) : Rows.uptoBulkAll (l ++ r) = Rows.uptoBulkAll l + Rows.uptoBulkAll r := by
  induction l with
  | nil => simp [Rows.uptoBulkAll]
  | cons x l ih => simp only [List.cons_append, Rows.uptoBulkAll, ih]; omega
theorem bulk_len {H : Type} (l : List (DataW H)) : l.length ≤ Rows.uptoBulkAll l := by
  induction l with
  | nil => simp
  | cons x l ih =>
    have := bulk_one x
    simp only [List.length_cons, Rows.uptoBulkAll]
    omega
theorem bulk_two {H : Type} (D : Nat → DataW H) (len : Nat) (h : ∀ i, i < len → 2 ≤ Rows.uptoBulk (D i)) : 2 * len ≤ Rows.uptoBulkAll ((List.range len).map D) := by
  induction len with
  | zero => simp
  | succ n ih =>
    have h1 := ih (fun i hi => h i (by omega))
    have h2 := h n (by omega)
    rw [List.range_succ, List.map_append, bulk_app]
    simp only [List.map_cons, List.map_nil, Rows.uptoBulkAll]
    omega
theorem files_bulk {H : Type} (f : Nat → FileV) (D : Nat → DataW H) (len : Nat) (h : ∀ i, i < len → 2 * (f i).pcs.length ≤ Rows.uptoBulk (D i)) : 2 * (allPcs ((List.range len).map f)).length ≤ Rows.uptoBulkAll ((List.range len).map D) := by
  induction len with
  | zero => simp [allPcs]
  | succ n ih =>
    have h1 := ih (fun i hi => h i (by omega))
    have h2 := h n (by omega)
    rw [List.range_succ, List.map_append, List.map_append, bulk_app]
    have e : allPcs ((List.range n).map f ++ [n].map f) = allPcs ((List.range n).map f) ++ (f n).pcs := by simp [allPcs]
    rw [e, List.length_append]
    simp only [List.map_cons, List.map_nil, Rows.uptoBulkAll]
    omega
section
variable {P : Program} {w : World} {H : Type} {enc : TypeId × Value → H}
theorem pcs_bulk {t e : TypeId} {f0 f1 : Field} {n : Nat} {v : Value} {x : DataW H × List MemPlace} {l : Pcs} (ht : P.underlying t = some (.slice e)) (he : P.underlying e = some (.struct #[f0, f1]))
    (h : DataW.trod enc P w 0 (fun _ => true) true n t [v] = some x) (hp : PIn w v l) : 2 * l.length ≤ Rows.uptoBulk x.1 := by
  obtain ⟨q, c, hv, _⟩ := hp.lies
  rcases open_slice ht h with ⟨hcs, _⟩ | ⟨a, len, cap, m, k, D, Pl, hcs, _, hl, hm, hmm, hxs, hel⟩
  · simp only [List.cons.injEq, and_true] at hcs
    rw [hcs] at hv
    simp only [Value.slice.injEq] at hv
    omega
  · simp only [List.cons.injEq, and_true] at hcs
    have hmc : m = cap := by simpa using hmm
    rw [hcs] at hv
    simp only [Value.slice.injEq] at hv
    rw [← hv.2.1, hxs]
    simp only [Rows.uptoBulk]
    have := bulk_two D len (fun i hi => by
      obtain ⟨cs', _, g2⟩ := hel i (by omega)
      obtain ⟨xs, k', _, hxy, _, hxl, _⟩ := DataW.trod_struct he g2
      simp only [Prod.mk.injEq] at hxy
      rw [hxy.1]
      simp only [Rows.uptoBulk]
      have h1 := bulk_len (xs.map (·.1))
      rw [List.length_map] at h1
      have h2 : xs.length = 2 := hxl
      omega)
    omega
theorem open_files2 {t e tp ep : TypeId} {f0 f1 f2 p0 p1 : Field} {n : Nat} {v : Value} {x : DataW H × List MemPlace} (ht : P.underlying t = some (.slice e)) (he : P.underlying e = some (.struct #[f0, f1, f2])) (ce : P.cellsOf e = 3)
    (o0 : f0.offset = 0) (o1 : f1.offset = 1) (o2 : f2.offset = 2) (c0 : P.cellsOf f0.type = 1) (c1 : P.cellsOf f1.type = 1) (c2 : P.cellsOf f2.type = 1) (k0 : P.underlying f0.type = some .string) (k1 : P.underlying f1.type = some (.int .i64)) (k2 : f2.type = tp)
    (htp : P.underlying tp = some (.slice ep)) (hep : P.underlying ep = some (.struct #[p0, p1])) (cep : P.cellsOf ep = 2) (q0 : p0.offset = 0) (q1 : p1.offset = 1) (d0 : P.cellsOf p0.type = 1) (d1 : P.cellsOf p1.type = 1) (m0 : P.underlying p0.type = some (.int .i64)) (m1 : P.underlying p1.type = some (.int .i64))
    (h : DataW.trod enc P w 0 (fun _ => true) true n t [v] = some x) : ∃ l, FIn w v l ∧ (∀ f ∈ l, f.name.size ≤ maxLen) ∧ 2 * (allPcs l).length ≤ Rows.uptoBulk x.1 := by
  subst k2
  rcases open_slice ht h with ⟨hcs, _⟩ | ⟨a, len, cap, m, k, D, Pl, hcs, _, hl, hm, hmm, hxs, hel⟩
  · simp only [List.cons.injEq, and_true] at hcs
    exact ⟨[], ⟨⟨none, 0, hcs, fun h => absurd h (by simp), by simp, by unfold maxLen; omega, fun _ => rfl⟩, by simp⟩, by simp, by simp [allPcs]⟩
  · simp only [List.cons.injEq, and_true] at hcs
    have hmc : m = cap := by simpa using hmm
    have each : ∀ i, i < len → ∃ y : FileV × Value, w.cell? (a.add (i * 3)) = some (.string y.1.name) ∧ w.cell? (a.add (i * 3 + 1)) = some (.int .i64 y.1.size) ∧ w.cell? (a.add (i * 3 + 2)) = some y.2 ∧ PIn w y.2 y.1.pcs ∧ wf64 y.1.size ∧ y.1.name.size ≤ maxLen ∧ 2 * y.1.pcs.length ≤ Rows.uptoBulk (D i) := by
      intro i hi
      obtain ⟨cs', g1, g2⟩ := hel i (by omega)
      rw [ce] at g1
      obtain ⟨_, hlen, hcell⟩ := World.cells?_some g1
      obtain ⟨xs, k', hk, hxy, _, hxl, hf⟩ := DataW.trod_struct he g2
      match xs, hxl, cs', hlen, hxy with
      | [y0, y1, y2], _, [v0, v1, v2], _, hxy =>
        have r0 := hf 0 f0 rfl
        have r1 := hf 1 f1 rfl
        have r2 := hf 2 f2 rfl
        simp [o0, o1, o2, c0, c1, c2] at r0 r1 r2
        have e0 := hcell 0 (by omega)
        have e1 := hcell 1 (by omega)
        have e2 := hcell 2 (by omega)
        rw [add_add] at e0 e1 e2
        obtain ⟨s, hs, _, hsz⟩ := DataW.trod_string k0 r0
        obtain ⟨z, hz, _, wz⟩ := DataW.trod_int k1 r1
        obtain ⟨l, hp⟩ := open_pcs htp hep cep q0 q1 d0 d1 m0 m1 r2
        have hpb := pcs_bulk htp hep r2 hp
        simp only [Prod.mk.injEq] at hxy
        simp only [List.cons.injEq, and_true] at hs hz
        subst hs hz
        exact ⟨(⟨s, z, l⟩, v2), by simpa using e0, by simpa using e1, by simpa using e2, hp, bounds_i64 wz, hsz, by rw [hxy.1]; simp only [Rows.uptoBulk, Rows.uptoBulkAll, List.map_cons, List.map_nil]; omega⟩
    haveI : Inhabited (FileV × Value) := ⟨(zeroF, .nilIface)⟩
    obtain ⟨f, hf⟩ := choose_lt each
    have hlen : ((List.range len).map fun i => (f i).1).length = len := by simp
    have hget : ∀ i, i < len → ((List.range len).map fun i => (f i).1).getD i zeroF = (f i).1 := by intro i hi; simp [List.getD, hi]
    refine ⟨(List.range len).map fun i => (f i).1, ⟨⟨some a, cap, by rw [hlen]; exact hcs, fun hp => ?_, by rw [hlen]; exact hl, hm, by simp⟩, ?_⟩, ?_, ?_⟩
    · rw [hlen] at hp
      obtain ⟨b, o, s⟩ := a
      obtain rfl : s = none := by
        have := World.cell?_spot (hf 0 (by omega)).1
        simpa [Addr.add] using this
      refine ⟨b, o, rfl, fun i hi => ?_⟩
      rw [hlen] at hi
      obtain ⟨e0, e1, e2, e3, _⟩ := hf i hi
      rw [hget i hi]
      rw [add_plain] at e0 e1 e2
      exact ⟨e0, e1, (f i).2, e2, e3⟩
    · intro y hy
      simp only [List.mem_map, List.mem_range] at hy
      obtain ⟨i, hi, rfl⟩ := hy
      exact (hf i hi).2.2.2.2.1
    · intro y hy
      simp only [List.mem_map, List.mem_range] at hy
      obtain ⟨i, hi, rfl⟩ := hy
      exact (hf i hi).2.2.2.2.2.1
    · rw [hxs]
      simp only [Rows.uptoBulk]
      have := files_bulk (fun i => (f i).1) D len (fun i hi => (hf i hi).2.2.2.2.2.2)
      omega
theorem open_dir2 {r : Reach} {b0 : Nat} {t : TypeId} {g0 g1 : Field} {v : Value} {d : DataW H} {p : List MemPlace} {tf e tp ep : TypeId} {f0 f1 f2 p0 p1 : Field}
    (hs : P.underlying t = some (.struct #[g0, g1])) (hone : oneCellFields P #[g0, g1] = true) (hC : P.cellsOf t = 2) (kg0 : P.underlying g0.type = some (.int .i64)) (kg1 : g1.type = tf)
    (ht : P.underlying tf = some (.slice e)) (he : P.underlying e = some (.struct #[f0, f1, f2])) (ce : P.cellsOf e = 3)
    (o0 : f0.offset = 0) (o1 : f1.offset = 1) (o2 : f2.offset = 2) (c0 : P.cellsOf f0.type = 1) (c1 : P.cellsOf f1.type = 1) (c2 : P.cellsOf f2.type = 1) (k0 : P.underlying f0.type = some .string) (k1 : P.underlying f1.type = some (.int .i64)) (k2 : f2.type = tp)
    (htp : P.underlying tp = some (.slice ep)) (hep : P.underlying ep = some (.struct #[p0, p1])) (cep : P.cellsOf ep = 2) (q0 : p0.offset = 0) (q1 : p1.offset = 1) (d0 : P.cellsOf p0.type = 1) (d1 : P.cellsOf p1.type = 1) (m0 : P.underlying p0.type = some (.int .i64)) (m1 : P.underlying p1.type = some (.int .i64))
    (hv : Value.okWide P w r b0 t v) (h : DataW.Trod enc P w 0 (fun _ => true) true t v d p) : ∃ x, DirIn w v x ∧ (∀ f ∈ x.files, f.name.size ≤ maxLen) ∧ 2 * (allPcs x.files).length ≤ Rows.uptoBulk d := by
  obtain ⟨v0, v1, y0, y1, n, rfl, rfl, _, h0, h1⟩ := open_agg2 hs hone hC hv h
  obtain ⟨z, hz, _, wz⟩ := DataW.trod_int kg0 h0
  simp only [List.cons.injEq, and_true] at hz
  subst hz
  rw [kg1] at h1
  obtain ⟨l, hl, hnm, hbk⟩ := open_files2 ht he ce o0 o1 o2 c0 c1 c2 k0 k1 k2 htp hep cep q0 q1 d0 d1 m0 m1 h1
  exact ⟨⟨z, l⟩, ⟨⟨v1, rfl, hl⟩, bounds_i64 wz⟩, hnm, by simp only [Rows.uptoBulk, Rows.uptoBulkAll]; omega⟩
end
end Go.Proofs.YtkgmhmhphgaclabGreatDoor
