import Derived.Test.YtghcmllmbpoidaaGreatDoorJ18
namespace Go.Proofs.YtghcmllmbpoidaaGreatDoor
open Go.RowKit Go.WideShapes Rm
theorem formatD4 (a b : Addr) (ev old : Value) (n : Int) (u : FrameMode) (w : World) (hg : ErrT w) (hv : ErrV ev n) (ha : w.cell? a = some ev) (hb : w.cell? b = some old) (hf : w.frozen? b = false) :
    CallsD Tryz.prog 31 #[.pointer (some a), .pointer (some b)] u w fun e u' w' => u' = u ∧ e = .returned (.tuple #[]) ∧ ∃ w1, w' = w1.setCell b (.int .i64 n) ∧ Below w.heap.size w w1 := by
  have hn := number_v ev n hv w hg
  have hlt := World.block_lt_of_cell? _ _ hb
  go_enter_d Tryz.func31, Tryz.ntmps31
  go_wp2_with fail
  refine hn.mono ?_
  rintro e w1 ⟨rfl, hb1⟩
  have hb2 : w1.cell? b = some old := (hb1.cell hlt).trans hb
  have hf2 : w1.frozen? b = false := (hb1.frozen hlt).trans hf
  go_wp2
  go_end0
  exact ⟨rfl, w1, rfl, hb1⟩
theorem DiskF.up {base base' : Nat} {w w' : World} {v : Value} {count : Int} {data : List Nat} {ws : Puts} (h : DiskF base w v count data ws) (hb : base' ≤ base) (hs : w.heap.size ≤ w'.heap.size) (hk : ∀ k : Nat, base ≤ k → k < w.heap.size → w'.heap[k]? = w.heap[k]?) : DiskF base' w' v count data ws :=
  fun w2 h2 => h w2 (fun k k1 k2 => (h2 k (by omega) (by omega)).trans (hk k k1 k2))
def fmtW (w1 : World) (H : Nat) (a b c : Value) : World := (((((((w1.setCell ⟨H, 0, none⟩ a).setCell ⟨H, 1, none⟩ b).setCell ⟨H, 2, none⟩ c).setCell ⟨H + 1 + 1, 0, none⟩ .nilIface).setCell ⟨H, 0, none⟩ a).setCell ⟨H, 1, none⟩ b).setCell ⟨H, 2, none⟩ c).setCell ⟨H + 1, 0, none⟩ (.int .i64 0)
section
variable {w1 : World} {H : Nat} {a b c x0 x1 x2 e r : Value}
theorem fmtW_err (h : w1.cell? ⟨H + 1 + 1, 0, none⟩ = some r) : (fmtW w1 H a b c).cell? ⟨H + 1 + 1, 0, none⟩ = some .nilIface := by
  unfold fmtW
  rw [o1 _ _ (ab_ne (by omega)), o1 _ _ (ab_ne (by omega)), o1 _ _ (ab_ne (by omega)), o1 _ _ (ab_ne (by omega))]
  refine o2 (u := r) ?_
  rw [o1 _ _ (ab_ne (by omega)), o1 _ _ (ab_ne (by omega)), o1 _ _ (ab_ne (by omega))]
  exact h
theorem fmtW_num (h : w1.cell? ⟨H + 1, 0, none⟩ = some e) : (fmtW w1 H a b c).cell? ⟨H + 1, 0, none⟩ = some (.int .i64 0) := by
  unfold fmtW
  refine o2 (u := e) ?_
  rw [o1 _ _ (ab_ne (by omega)), o1 _ _ (ab_ne (by omega)), o1 _ _ (ab_ne (by omega)), o1 _ _ (ab_ne (by omega)), o1 _ _ (ab_ne (by omega)), o1 _ _ (ab_ne (by omega)), o1 _ _ (ab_ne (by omega))]
  exact h
theorem fmtW_fr (h : w1.frozen? ⟨H + 1, 0, none⟩ = false) : (fmtW w1 H a b c).frozen? ⟨H + 1, 0, none⟩ = false := by
  unfold fmtW
  simpa using h
theorem fmtW_cells (h0 : w1.cell? ⟨H, 0, none⟩ = some x0) (h1 : w1.cell? ⟨H, 1, none⟩ = some x1) (h2 : w1.cell? ⟨H, 2, none⟩ = some x2) : (fmtW w1 H a b c).cell? ⟨H, 0, none⟩ = some a ∧ (fmtW w1 H a b c).cell? ⟨H, 1, none⟩ = some b ∧ (fmtW w1 H a b c).cell? ⟨H, 2, none⟩ = some c := by
  unfold fmtW
  refine ⟨?_, ?_, ?_⟩
  · rw [o1 _ _ (ab_ne (by omega)), o1 _ _ (ij_ne (by decide)), o1 _ _ (ij_ne (by decide))]
    refine o2 (u := a) ?_
    rw [o1 _ _ (ab_ne (by omega)), o1 _ _ (ij_ne (by decide)), o1 _ _ (ij_ne (by decide))]
    exact o2 h0
  · rw [o1 _ _ (ab_ne (by omega)), o1 _ _ (ij_ne (by decide))]
    refine o2 (u := b) ?_
    rw [o1 _ _ (ij_ne (by decide)), o1 _ _ (ab_ne (by omega)), o1 _ _ (ij_ne (by decide))]
    refine o2 (u := x1) ?_
    rw [o1 _ _ (ij_ne (by decide))]
    exact h1
  · rw [o1 _ _ (ab_ne (by omega))]
    refine o2 (u := c) ?_
    rw [o1 _ _ (ij_ne (by decide)), o1 _ _ (ij_ne (by decide)), o1 _ _ (ab_ne (by omega))]
    refine o2 (u := x2) ?_
    rw [o1 _ _ (ij_ne (by decide)), o1 _ _ (ij_ne (by decide))]
    exact h2
theorem fmtW_other {k : Nat} (h0 : k ≠ H) (h1 : k ≠ H + 1) (h2 : k ≠ H + 1 + 1) : (fmtW w1 H a b c).heap[k]? = w1.heap[k]? := by
  unfold fmtW
  rw [set_keep h1, set_keep h0, set_keep h0, set_keep h0, set_keep h2, set_keep h0, set_keep h0, set_keep h0]
theorem fmtW_below {w : World} (h : Below H w w1) : Below H w (fmtW w1 H a b c) := by
  unfold fmtW
  exact below_setR _ _ (below_setR _ _ (below_setR _ _ (below_setR _ _ (below_setR _ _ (below_setR _ _ (below_setR _ _ (below_setR _ _ h (Nat.le_refl _)) (Nat.le_refl _)) (Nat.le_refl _)) (by omega)) (Nat.le_refl _)) (Nat.le_refl _)) (Nat.le_refl _)) (by omega)
theorem fmtW_size : (fmtW w1 H a b c).heap.size = w1.heap.size := by unfold fmtW; simp
end
structure FmtN (w : World) (n : Nat) (e : Ending) (w' : World) : Prop where
  ex : ∃ v D, e = .returned (.tuple #[v, .int .i64 0]) ∧ FmtIs n D ∧ DiskF w.heap.size w' v (n : Int) D [] ∧ Below w.heap.size w w'
set_option maxRecDepth 8000 in
set_option maxHeartbeats 4000000 in
theorem Format_ok (n : Nat) (w : World) (hL : Laid w) (h1 : 96 ≤ n) (h2 : n ≤ 4096) :
    Calls Tryz.prog 16 #[.int .i64 (n : Int)] w fun e w' => FmtN w n e w' := by
  have hb3 : Below w.heap.size w (((w.alloc (.cells #[.int .i64 0, .slice none 0 0, .slice none 0 0] 35)).alloc (.cells #[.int .i64 0] 25)).alloc (.cells #[.nilIface] 45)) := ((below_alloc w _).alloc (by simp) _).alloc (by simp; omega) _
  have hft := format_ok n (((w.alloc (.cells #[.int .i64 0, .slice none 0 0, .slice none 0 0] 35)).alloc (.cells #[.int .i64 0] 25)).alloc (.cells #[.nilIface] 45)) h1 h2
  have HG : Hid (ErrT w) := hL.err
  have hmf : ∀ (fn : Fn) (first cap : Array Value) (w : World), (Instr.makeFunc fn first cap).run Tryz.prog w = .ok (.func fn first cap) w := fun _ _ _ _ => rfl
  have HDK : Hid ((((w.alloc (.cells #[.int .i64 0, .slice none 0 0, .slice none 0 0] 35)).alloc (.cells #[.int .i64 0] 25)).alloc (.cells #[.nilIface] 45)).heap[w.heap.size]? = some (.cells #[.int .i64 0, .slice none 0 0, .slice none 0 0] 35 (0, 0))) := by
    have h1 := heap_alloc_new w (.cells #[.int .i64 0, .slice none 0 0, .slice none 0 0] 35)
    have h2 := ((below_alloc (w.alloc (.cells #[.int .i64 0, .slice none 0 0, .slice none 0 0] 35)) (.cells #[.int .i64 0] 25)).block _ (by simp)).trans h1
    exact ((below_alloc ((w.alloc (.cells #[.int .i64 0, .slice none 0 0, .slice none 0 0] 35)).alloc (.cells #[.int .i64 0] 25)) (.cells #[.nilIface] 45)).block _ (by simp; omega)).trans h2
  clear hL h1 h2
  go_enter_defers Tryz.func16, Tryz.ntmps16
  go_wp2_with fail
  refine hft.mono ?_
  rintro e w1 ⟨v, D, rfl, hD, hF, hbb⟩
  have hs1 := hbb.size
  simp at hs1
  obtain ⟨ce, cr, fe, fr⟩ := vars2 (a := .int .i64 0) (b := .nilIface) (s := 25) (t := 45) (w.alloc (.cells #[.int .i64 0, .slice none 0 0, .slice none 0 0] 35)) w1 hbb
  simp only [heap_size_alloc] at ce cr fe fr
  obtain ⟨⟨d0, d1, d2⟩, g0, g1, g2⟩ := cells3f ((hbb.block _ (lt_heap HDK.out)).trans HDK.out)
  have HB : Hid (Below w.heap.size w w1) := hb3.trans (hbb.mono hb3.size)
  simp only [heap_size_alloc] at hF
  have HF : Hid (FmtIs n D ∧ DiskF (w.heap.size + 1 + 1 + 1) w1 v (n : Int) D []) := ⟨hD, hF⟩
  obtain ⟨p, c, q, m, rfl, _⟩ := hF.self.parts
  simp only [List.length_nil] at HF ⊢
  obtain ⟨dl, hdl⟩ : ∃ k, D.length = k := ⟨_, rfl⟩
  rw [hdl] at HF ⊢
  clear hft hb3 hbb hD hF hdl
  go_wp2
  have g1 := fmtW_err (a := .int .i64 (n : Int)) (b := .slice p dl c) (c := .slice q 0 m) cr
  have g2 := fmtW_num (a := .int .i64 (n : Int)) (b := .slice p dl c) (c := .slice q 0 m) ce
  have g3 := fmtW_fr (a := .int .i64 (n : Int)) (b := .slice p dl c) (c := .slice q 0 m) fe
  have g4 := fmtW_cells (a := .int .i64 (n : Int)) (b := .slice p dl c) (c := .slice q 0 m) d0 d1 d2
  have hbW : Below w.heap.size w (fmtW w1 w.heap.size (.int .i64 (n : Int)) (.slice p dl c) (.slice q 0 m)) := fmtW_below HB.out
  have hoW : ∀ k, w.heap.size + 1 + 1 + 1 ≤ k → (fmtW w1 w.heap.size (.int .i64 (n : Int)) (.slice p dl c) (.slice q 0 m)).heap[k]? = w1.heap[k]? := fun k hk => fmtW_other (by omega) (by omega) (by omega)
  have hsW : (fmtW w1 w.heap.size (.int .i64 (n : Int)) (.slice p dl c) (.slice q 0 m)).heap.size = w1.heap.size := fmtW_size
  show bodyPostD _ _ _ _ _ (fmtW w1 w.heap.size (.int .i64 (n : Int)) (.slice p dl c) (.slice q 0 m))
  generalize fmtW w1 w.heap.size (.int .i64 (n : Int)) (.slice p dl c) (.slice q 0 m) = W at *
  refine leaves_cons (f := 31) (args := #[.pointer (some ⟨w.heap.size + 1 + 1, 0, none⟩), .pointer (some ⟨w.heap.size + 1, 0, none⟩)]) (by simp) (by simp [go_sem]) ?_
  refine (formatD4 ⟨w.heap.size + 1 + 1, 0, none⟩ ⟨w.heap.size + 1, 0, none⟩ .nilIface (.int .i64 0) 0 .returning _ (HG.out.below hbW) (.inl ⟨rfl, rfl⟩) g1 g2 g3).mono ?_
  rintro e u' w'' ⟨rfl, rfl, w3, rfl, hb3⟩
  have hltE := World.block_lt_of_cell? _ _ g2
  have hltD := World.block_lt_of_cell? _ _ g4.1
  have k1 : (w3.setCell ⟨w.heap.size + 1, 0, none⟩ (.int .i64 0)).cell? ⟨w.heap.size + 1, 0, none⟩ = some (.int .i64 0) := World.cell?_setCell_same _ _ _ ((hb3.cell hltE).trans g2)
  have k2 : Below w.heap.size w (w3.setCell ⟨w.heap.size + 1, 0, none⟩ (.int .i64 0)) := below_setR _ _ (hbW.trans (hb3.mono hbW.size)) (by omega)
  have m0 : (w3.setCell ⟨w.heap.size + 1, 0, none⟩ (.int .i64 0)).cell? ⟨w.heap.size, 0, none⟩ = some (.int .i64 (n : Int)) := (o1 _ _ (ab_ne (by omega))).trans ((hb3.cell hltD).trans g4.1)
  have m1 : (w3.setCell ⟨w.heap.size + 1, 0, none⟩ (.int .i64 0)).cell? ⟨w.heap.size, 1, none⟩ = some (.slice p dl c) := (o1 _ _ (ab_ne (by omega))).trans ((hb3.cell (World.block_lt_of_cell? _ _ g4.2.1)).trans g4.2.1)
  have m2 : (w3.setCell ⟨w.heap.size + 1, 0, none⟩ (.int .i64 0)).cell? ⟨w.heap.size, 2, none⟩ = some (.slice q 0 m) := (o1 _ _ (ab_ne (by omega))).trans ((hb3.cell (World.block_lt_of_cell? _ _ g4.2.2)).trans g4.2.2)
  have k3 : DiskF w.heap.size (w3.setCell ⟨w.heap.size + 1, 0, none⟩ (.int .i64 0)) (.agg #[.int .i64 (n : Int), .slice p dl c, .slice q 0 m]) (n : Int) D [] := HF.out.2.up (by omega) (by have := hb3.size; simp; omega) (fun k k1 k2 => (set_keep (by omega)).trans ((hb3.block k (by omega)).trans (hoW k k1)))
  generalize w3.setCell ⟨w.heap.size + 1, 0, none⟩ (.int .i64 0) = w4 at *
  simp [Leaves, settle, results, Tryz.results16, go_sem, k1, m0, m1, m2]
  exact ⟨⟨_, D, rfl, HF.out.1, k3, k2⟩⟩
end Go.Proofs.YtghcmllmbpoidaaGreatDoor
