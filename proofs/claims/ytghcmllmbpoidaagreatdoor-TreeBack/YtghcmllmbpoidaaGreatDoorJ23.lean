import Derived.Test.YtghcmllmbpoidaaGreatDoorJ22
import Derived.Test.YtghcmllmbpoidaaGreatDoorJ16
namespace Go.Proofs.YtghcmllmbpoidaaGreatDoor
open Go.RowKit Go.WideShapes Rm
theorem formatD4 (a b : Addr) (ev old : Value) (n : Int) (u : FrameMode) (w : World) (hg : ErrT w) (hv : ErrV ev n) (ha : w.cell? a = some ev) (hb : w.cell? b = some old) (hf : w.frozen? b = false) :
    CallsD Tryz.prog 31 #[.pointer (some a), .pointer (some b)] u w fun e u' w' => u' = u ∧ e = .returned (.tuple #[]) ∧ ∃ w1, w' = w1.setCell b (.int .i64 n) ∧ Below w.heap.size w w1 := by
  have hn := number_v ev n hv w hg
  have hlt := World.block_lt_of_cell? _ _ hb
  go_enter_d Tryz.func31, Tryz.ntmps31
  go_wp2_with fail
  refine hn.mono ?_
  rintro e w1 ⟨rfl, hb1⟩
  have hb2 : w1.cell? b = some old := (hb1.cell hlt).trans hb
  have hf2 : w1.frozen? b = false := (hb1.frozen hlt).trans hf
  go_wp2
  go_end0
  exact ⟨rfl, w1, rfl, hb1⟩
theorem DiskF.up {base base' : Nat} {w w' : World} {v : Value} {count : Int} {data : List Nat} {ws : Puts} (h : DiskF base w v count data ws) (hb : base' ≤ base) (hs : w.heap.size ≤ w'.heap.size) (hk : ∀ k : Nat, base ≤ k → k < w.heap.size → w'.heap[k]? = w.heap[k]?) : DiskF base' w' v count data ws :=
  fun w2 h2 => h w2 (fun k k1 k2 => (h2 k (by omega) (by omega)).trans (hk k k1 k2))
def fmtW (w1 : World) (H : Nat) (a b c : Value) : World := (((((((w1.setCell ⟨H, 0, none⟩ a).setCell ⟨H, 1, none⟩ b).setCell ⟨H, 2, none⟩ c).setCell ⟨H + 1 + 1, 0, none⟩ .nilIface).setCell ⟨H, 0, none⟩ a).setCell ⟨H, 1, none⟩ b).setCell ⟨H, 2, none⟩ c).setCell ⟨H + 1, 0, none⟩ (.int .i64 0)
section
variable {w1 : World} {H : Nat} {a b c x0 x1 x2 e r : Value}
theorem fmtW_err (h : w1.cell? ⟨H + 1 + 1, 0, none⟩ = some r) : (fmtW w1 H a b c).cell? ⟨H + 1 + 1, 0, none⟩ = some .nilIface := by
  unfold fmtW
  rw [o1 _ _ (ab_ne (by omega)), o1 _ _ (ab_ne (by omega)), o1 _ _ (ab_ne (by omega)), o1 _ _ (ab_ne (by omega))]
  refine o2 (u := r) ?_
  rw [o1 _ _ (ab_ne (by omega)), o1 _ _ (ab_ne (by omega)), o1 _ _ (ab_ne (by omega))]
  exact h
theorem fmtW_num (h : w1.cell? ⟨H + 1, 0, none⟩ = some e) : (fmtW w1 H a b c).cell? ⟨H + 1, 0, none⟩ = some (.int .i64 0) := by
  unfold fmtW
  refine o2 (u := e) ?_
  rw [o1 _ _ (ab_ne (by omega)), o1 _ _ (ab_ne (by omega)), o1 _ _ (ab_ne (by omega)), o1 _ _ (ab_ne (by omega)), o1 _ _ (ab_ne (by omega)), o1 _ _ (ab_ne (by omega)), o1 _ _ (ab_ne (by omega))]
  exact h
theorem fmtW_fr (h : w1.frozen? ⟨H + 1, 0, none⟩ = false) : (fmtW w1 H a b c).frozen? ⟨H + 1, 0, none⟩ = false := by
  unfold fmtW
  simpa using h
theorem fmtW_cells (h0 : w1.cell? ⟨H, 0, none⟩ = some x0) (h1 : w1.cell? ⟨H, 1, none⟩ = some x1) (h2 : w1.cell? ⟨H, 2, none⟩ = some x2) : (fmtW w1 H a b c).cell? ⟨H, 0, none⟩ = some a ∧ (fmtW w1 H a b c).cell? ⟨H, 1, none⟩ = some b ∧ (fmtW w1 H a b c).cell? ⟨H, 2, none⟩ = some c := by
  unfold fmtW
  refine ⟨?_, ?_, ?_⟩
  · rw [o1 _ _ (ab_ne (by omega)), o1 _ _ (ij_ne (by decide)), o1 _ _ (ij_ne (by decide))]
    refine o2 (u := a) ?_
    rw [o1 _ _ (ab_ne (by omega)), o1 _ _ (ij_ne (by decide)), o1 _ _ (ij_ne (by decide))]
    exact o2 h0
  · rw [o1 _ _ (ab_ne (by omega)), o1 _ _ (ij_ne (by decide))]
    refine o2 (u := b) ?_
    rw [o1 _ _ (ij_ne (by decide)), o1 _ _ (ab_ne (by omega)), o1 _ _ (ij_ne (by decide))]
    refine o2 (u := x1) ?_
    rw [o1 _ _ (ij_ne (by decide))]
    exact h1
  · rw [o1 _ _ (ab_ne (by omega))]
    refine o2 (u := c) ?_
    rw [o1 _ _ (ij_ne (by decide)), o1 _ _ (ij_ne (by decide)), o1 _ _ (ab_ne (by omega))]
    refine o2 (u := x2) ?_
    rw [o1 _ _ (ij_ne (by decide)), o1 _ _ (ij_ne (by decide))]
    exact h2
theorem fmtW_other {k : Nat} (h0 : k ≠ H) (h1 : k ≠ H + 1) (h2 : k ≠ H + 1 + 1) : (fmtW w1 H a b c).heap[k]? = w1.heap[k]? := by
  unfold fmtW
  rw [set_keep h1, set_keep h0, set_keep h0, set_keep h0, set_keep h2, set_keep h0, set_keep h0, set_keep h0]
theorem fmtW_below {w : World} (h : Below H w w1) : Below H w (fmtW w1 H a b c) := by
  unfold fmtW
  exact below_setR _ _ (below_setR _ _ (below_setR _ _ (below_setR _ _ (below_setR _ _ (below_setR _ _ (below_setR _ _ (below_setR _ _ h (Nat.le_refl _)) (Nat.le_refl _)) (Nat.le_refl _)) (by omega)) (Nat.le_refl _)) (Nat.le_refl _)) (Nat.le_refl _)) (by omega)
theorem fmtW_size : (fmtW w1 H a b c).heap.size = w1.heap.size := by unfold fmtW; simp
end
structure FmtN (w : World) (n : Nat) (e : Ending) (w' : World) : Prop where
  ex : ∃ v D, e = .returned (.tuple #[v, .int .i64 0]) ∧ FmtIs n D ∧ DiskF w.heap.size w' v (n : Int) D [] ∧ Below w.heap.size w w'
set_option maxRecDepth 8000 in
set_option maxHeartbeats 4000000 in
theorem Format_ok (n : Nat) (w : World) (hL : Laid w) (h1 : 96 ≤ n) (h2 : n ≤ 4096) :
    Calls Tryz.prog 16 #[.int .i64 (n : Int)] w fun e w' => FmtN w n e w' := by
  have hb3 : Below w.heap.size w (((w.alloc (.cells #[.int .i64 0, .slice none 0 0, .slice none 0 0] 35)).alloc (.cells #[.int .i64 0] 25)).alloc (.cells #[.nilIface] 45)) := ((below_alloc w _).alloc (by simp) _).alloc (by simp; omega) _
  have hft := format_ok n (((w.alloc (.cells #[.int .i64 0, .slice none 0 0, .slice none 0 0] 35)).alloc (.cells #[.int .i64 0] 25)).alloc (.cells #[.nilIface] 45)) h1 h2
  have HG : Hid (ErrT w) := hL.err
  have hmf : ∀ (fn : Fn) (first cap : Array Value) (w : World), (Instr.makeFunc fn first cap).run Tryz.prog w = .ok (.func fn first cap) w := fun _ _ _ _ => rfl
  have HDK : Hid ((((w.alloc (.cells #[.int .i64 0, .slice none 0 0, .slice none 0 0] 35)).alloc (.cells #[.int .i64 0] 25)).alloc (.cells #[.nilIface] 45)).heap[w.heap.size]? = some (.cells #[.int .i64 0, .slice none 0 0, .slice none 0 0] 35 (0, 0))) := by
    have h1 := heap_alloc_new w (.cells #[.int .i64 0, .slice none 0 0, .slice none 0 0] 35)
    have h2 := ((below_alloc (w.alloc (.cells #[.int .i64 0, .slice none 0 0, .slice none 0 0] 35)) (.cells #[.int .i64 0] 25)).block _ (by simp)).trans h1
    exact ((below_alloc ((w.alloc (.cells #[.int .i64 0, .slice none 0 0, .slice none 0 0] 35)).alloc (.cells #[.int .i64 0] 25)) (.cells #[.nilIface] 45)).block _ (by simp; omega)).trans h2
  clear hL h1 h2
  go_enter_defers Tryz.func16, Tryz.ntmps16
  go_wp2_with fail
  refine hft.mono ?_
  rintro e w1 ⟨v, D, rfl, hD, hF, hbb⟩
  have hs1 := hbb.size
  simp at hs1
  obtain ⟨ce, cr, fe, fr⟩ := vars2 (a := .int .i64 0) (b := .nilIface) (s := 25) (t := 45) (w.alloc (.cells #[.int .i64 0, .slice none 0 0, .slice none 0 0] 35)) w1 hbb
  simp only [heap_size_alloc] at ce cr fe fr
  obtain ⟨⟨d0, d1, d2⟩, g0, g1, g2⟩ := cells3f ((hbb.block _ (lt_heap HDK.out)).trans HDK.out)
  have HB : Hid (Below w.heap.size w w1) := hb3.trans (hbb.mono hb3.size)
  simp only [heap_size_alloc] at hF
  have HF : Hid (FmtIs n D ∧ DiskF (w.heap.size + 1 + 1 + 1) w1 v (n : Int) D []) := ⟨hD, hF⟩
  obtain ⟨p, c, q, m, rfl, _⟩ := hF.self.parts
  simp only [List.length_nil] at HF ⊢
  obtain ⟨dl, hdl⟩ : ∃ k, D.length = k := ⟨_, rfl⟩
  rw [hdl] at HF ⊢
  clear hft hb3 hbb hD hF hdl
  go_wp2
  have g1 := fmtW_err (a := .int .i64 (n : Int)) (b := .slice p dl c) (c := .slice q 0 m) cr
  have g2 := fmtW_num (a := .int .i64 (n : Int)) (b := .slice p dl c) (c := .slice q 0 m) ce
  have g3 := fmtW_fr (a := .int .i64 (n : Int)) (b := .slice p dl c) (c := .slice q 0 m) fe
  have g4 := fmtW_cells (a := .int .i64 (n : Int)) (b := .slice p dl c) (c := .slice q 0 m) d0 d1 d2
  have hbW : Below w.heap.size w (fmtW w1 w.heap.size (.int .i64 (n : Int)) (.slice p dl c) (.slice q 0 m)) := fmtW_below HB.out
  have hoW : ∀ k, w.heap.size + 1 + 1 + 1 ≤ k → (fmtW w1 w.heap.size (.int .i64 (n : Int)) (.slice p dl c) (.slice q 0 m)).heap[k]? = w1.heap[k]? := fun k hk => fmtW_other (by omega) (by omega) (by omega)
  have hsW : (fmtW w1 w.heap.size (.int .i64 (n : Int)) (.slice p dl c) (.slice q 0 m)).heap.size = w1.heap.size := fmtW_size
  show bodyPostD _ _ _ _ _ (fmtW w1 w.heap.size (.int .i64 (n : Int)) (.slice p dl c) (.slice q 0 m))
  generalize fmtW w1 w.heap.size (.int .i64 (n : Int)) (.slice p dl c) (.slice q 0 m) = W at *
  refine leaves_cons (f := 31) (args := #[.pointer (some ⟨w.heap.size + 1 + 1, 0, none⟩), .pointer (some ⟨w.heap.size + 1, 0, none⟩)]) (by simp) (by simp [go_sem]) ?_
  refine (formatD4 ⟨w.heap.size + 1 + 1, 0, none⟩ ⟨w.heap.size + 1, 0, none⟩ .nilIface (.int .i64 0) 0 .returning _ (HG.out.below hbW) (.inl ⟨rfl, rfl⟩) g1 g2 g3).mono ?_
  rintro e u' w'' ⟨rfl, rfl, w3, rfl, hb3⟩
  have hltE := World.block_lt_of_cell? _ _ g2
  have hltD := World.block_lt_of_cell? _ _ g4.1
  have k1 : (w3.setCell ⟨w.heap.size + 1, 0, none⟩ (.int .i64 0)).cell? ⟨w.heap.size + 1, 0, none⟩ = some (.int .i64 0) := World.cell?_setCell_same _ _ _ ((hb3.cell hltE).trans g2)
  have k2 : Below w.heap.size w (w3.setCell ⟨w.heap.size + 1, 0, none⟩ (.int .i64 0)) := below_setR _ _ (hbW.trans (hb3.mono hbW.size)) (by omega)
  have m0 : (w3.setCell ⟨w.heap.size + 1, 0, none⟩ (.int .i64 0)).cell? ⟨w.heap.size, 0, none⟩ = some (.int .i64 (n : Int)) := (o1 _ _ (ab_ne (by omega))).trans ((hb3.cell hltD).trans g4.1)
  have m1 : (w3.setCell ⟨w.heap.size + 1, 0, none⟩ (.int .i64 0)).cell? ⟨w.heap.size, 1, none⟩ = some (.slice p dl c) := (o1 _ _ (ab_ne (by omega))).trans ((hb3.cell (World.block_lt_of_cell? _ _ g4.2.1)).trans g4.2.1)
  have m2 : (w3.setCell ⟨w.heap.size + 1, 0, none⟩ (.int .i64 0)).cell? ⟨w.heap.size, 2, none⟩ = some (.slice q 0 m) := (o1 _ _ (ab_ne (by omega))).trans ((hb3.cell (World.block_lt_of_cell? _ _ g4.2.2)).trans g4.2.2)
  have k3 : DiskF w.heap.size (w3.setCell ⟨w.heap.size + 1, 0, none⟩ (.int .i64 0)) (.agg #[.int .i64 (n : Int), .slice p dl c, .slice q 0 m]) (n : Int) D [] := HF.out.2.up (by omega) (by have := hb3.size; simp; omega) (fun k k1 k2 => (set_keep (by omega)).trans ((hb3.block k (by omega)).trans (hoW k k1)))
  generalize w3.setCell ⟨w.heap.size + 1, 0, none⟩ (.int .i64 0) = w4 at *
  simp [Leaves, settle, results, Tryz.results16, go_sem, k1, m0, m1, m2]
  exact ⟨⟨_, D, rfl, HF.out.1, k3, k2⟩⟩
theorem namesD (a b : Addr) (ev old : Value) (n : Int) (u : FrameMode) (w : World) (hg : ErrT w) (hv : ErrV ev n) (ha : w.cell? a = some ev) (hb : w.cell? b = some old) (hf : w.frozen? b = false) :
    CallsD Tryz.prog 77 #[.pointer (some a), .pointer (some b)] u w fun e u' w' => u' = u ∧ e = .returned (.tuple #[]) ∧ ∃ w1, w' = w1.setCell b (.int .i64 n) ∧ Below w.heap.size w w1 := by
  have hn := number_v ev n hv w hg
  have hlt := World.block_lt_of_cell? _ _ hb
  go_enter_d Tryz.func77, Tryz.ntmps77
  go_wp2_with fail
  refine hn.mono ?_
  rintro e w1 ⟨rfl, hb1⟩
  have hb2 : w1.cell? b = some old := (hb1.cell hlt).trans hb
  have hf2 : w1.frozen? b = false := (hb1.frozen hlt).trans hf
  go_wp2
  go_end0
  exact ⟨rfl, w1, rfl, hb1⟩
def Ts (l : List FileV) : List Value := l.map fun f => Value.string f.name
def namesN : Option (DirV × Int) → List FileV
  | some (x, _) => x.files
  | none => []
structure OnT (w0 : World) (v : Value) (l : List FileV) (wr : World) : Prop where
  own : wr.ownsRow w0.heap.size 9 1 v l.length (Ts l)
  bel : Below w0.heap.size w0 wr
theorem OnT.app {w0 wr w' : World} {v v' : Value} {l : List FileV} {f : FileV} (h : OnT w0 v l wr) (hg : wr.grownBy w' v.ownBlock) (ho : w'.ownsRow w0.heap.size 9 1 v' (l.length + 1) (Ts l ++ [.string f.name])) : OnT w0 v' (l ++ [f]) w' := by
  refine ⟨?_, h.bel.grown hg h.bel.size (fun k hk => (World.ownsRow.lt h.own k hk).1)⟩
  rw [List.length_append]
  unfold Ts at ho ⊢
  rw [List.map_append]
  exact ho
theorem OnT.next {w0 wr w' : World} {v : Value} {l : List FileV} (h : OnT w0 v l wr) (hb : Below wr.heap.size wr w') : OnT w0 v l w' := ⟨own_below h.own hb, below_bt h.bel hb⟩
theorem info9s : (Tryz.prog.info? 9).map (fun i => (i.zero, i.size, i.bytes)) = some (some (.string ⟨#[]⟩), 1, 16) := by kernel_rfl
theorem info_parts4 {P : Program} {t : TypeId} {z : Option Value} {s b : Nat} (h : (P.info? t).map (fun i => (i.zero, i.size, i.bytes)) = some (z, s, b)) : ∃ i, P.info? t = some i ∧ i.zero = z ∧ i.size = s ∧ i.bytes = b := by
  cases hi : P.info? t with
  | none => rw [hi] at h; cases h
  | some i => rw [hi] at h; simp at h; exact ⟨i, rfl, h.1, h.2.1, h.2.2⟩
theorem take_file {l : List FileV} {k : Nat} (h : k < l.length) : l.take (k + 1) = l.take k ++ [l.getD k zeroF] := by
  rw [List.take_succ_eq_append_getElem h, List.getD_eq_getElem?_getD, List.getElem?_eq_getElem h]; rfl
set_option maxRecDepth 8000 in
set_option maxHeartbeats 4000000 in
theorem Names_any (v : Value) (count : Int) (data : List Nat) (ws : Puts) (w : World) (hL : Laid w) (hd : DiskIn w v count data ws) (r : Option (DirV × Int)) (n : Int) (hm : MountIs count data ws r n) :
    Calls Tryz.prog 44 #[v] w fun e w' => (∃ lv, e = .returned (.tuple #[lv, .int .i64 n]) ∧ w'.ownsRow w.heap.size 9 1 lv (namesN r).length (Ts (namesN r))) ∧ Below w.heap.size w w' := by
  obtain ⟨p, c, q, m, rfl, _⟩ := hd.parts
  obtain ⟨i0, hi, hz0, hz1, hz2⟩ := info_parts4 info9s
  have HG : Hid (ErrT w) := hL.err
  have hmf : ∀ (fn : Fn) (first cap : Array Value) (w : World), (Instr.makeFunc fn first cap).run Tryz.prog w = .ok (.func fn first cap) w := fun _ _ _ _ => rfl
  have hb2 : Below w.heap.size w ((w.alloc (.cells #[.int .i64 count, .slice p data.length c, .slice q ws.length m] 35)).alloc (.cells #[.int .i64 0] 25)) := (below_alloc w _).alloc (by simp) _
  have HB2 : Hid (Below w.heap.size w ((w.alloc (.cells #[.int .i64 count, .slice p data.length c, .slice q ws.length m] 35)).alloc (.cells #[.int .i64 0] 25))) := hb2
  have HEB2 : Hid (((w.alloc (.cells #[.int .i64 count, .slice p data.length c, .slice q ws.length m] 35)).alloc (.cells #[.int .i64 0] 25)).heap[w.heap.size + 1]? = some (.cells #[.int .i64 0] 25 (0, 0))) := by
    have h := heap_alloc_new (w.alloc (.cells #[.int .i64 count, .slice p data.length c, .slice q ws.length m] 35)) (.cells #[.int .i64 0] 25)
    rw [heap_size_alloc] at h
    exact h
  have hmt := mount_any _ count data ws ((w.alloc (.cells #[.int .i64 count, .slice p data.length c, .slice q ws.length m] 35)).alloc (.cells #[.int .i64 0] 25)) (hL.below hb2) (hd.below hb2) r n hm
  have HMI : Hid (MountIs count data ws r n) := hm
  clear hL hd hm hb2
  rcases r with _ | ⟨x, at_⟩
  · go_enter_defers Tryz.func44, Tryz.ntmps44
    go_wp2_with fail
    refine hmt.mono ?_
    rintro e w1 ⟨ev, rfl, hfl, hb1⟩
    have HE : Hid (ErrV ev n) := .inr ⟨by rcases mountIs_none HMI.out with h | h <;> omega, hfl⟩
    obtain ⟨tx, vx, rfl⟩ := hfl.iface
    have bx1 := below_alloc w1 (.cells #[.int .i64 0, .slice none 0 0] 142)
    have bx2 := below_alloc (w1.alloc (.cells #[.int .i64 0, .slice none 0 0] 142)) (.cells #[.iface tx vx] 45)
    have hbb := below_bt hb1 (below_bt bx1 bx2)
    have HBW0 : Hid (Below w.heap.size w ((w1.alloc (.cells #[.int .i64 0, .slice none 0 0] 142)).alloc (.cells #[.iface tx vx] 45))) := below_bt HB2.out hbb
    have HEB0 : Hid (((w1.alloc (.cells #[.int .i64 0, .slice none 0 0] 142)).alloc (.cells #[.iface tx vx] 45)).heap[w.heap.size + 1]? = some (.cells #[.int .i64 0] 25 (0, 0))) := (hbb.block _ (lt_heap HEB2.out)).trans HEB2.out
    have HAB0 : Hid (((w1.alloc (.cells #[.int .i64 0, .slice none 0 0] 142)).alloc (.cells #[.iface tx vx] 45)).heap[w1.heap.size + 1]? = some (.cells #[.iface tx vx] 45 (0, 0))) := by
      have h := heap_alloc_new (w1.alloc (.cells #[.int .i64 0, .slice none 0 0] 142)) (.cells #[.iface tx vx] 45)
      rw [heap_size_alloc] at h
      exact h
    have HNE : Hid (w1.heap.size + 1 ≠ w.heap.size + 1) := by have h1 := hb1.size; have h2 := HB2.out.size; simp at h1; show _ ≠ _; omega
    clear hbb bx1 bx2 hb1 hmt hfl
    go_wp2
    generalize (w1.alloc (.cells #[.int .i64 0, .slice none 0 0] 142)).alloc (.cells #[.iface tx vx] 45) = w0 at *
    generalize w1.heap.size = gD at *
    obtain ⟨gA, hgA⟩ : ∃ gA, gD + 1 = gA := ⟨_, rfl⟩
    rw [hgA] at HAB0 HNE ⊢
    clear hgA
    go_loopw [2, 19] (fun s i wx => s = .slice none 0 0 ∧ i = .int .i64 0 ∧ wx = w0) (fun _ _ _ => 0)
    case atStart => exact ⟨rfl, rfl, rfl⟩
    case round =>
      obtain ⟨rfl, rfl, rfl⟩ := hrel
      have HON : Hid (OnT wr (.slice none 0 0) [] wr) := ⟨World.ownsRow_nil _ _ _ _, Below.refl _ _⟩
      have HBW : Hid (Below w.heap.size w wr) := HBW0.out
      have HEB : Hid (wr.heap[w.heap.size + 1]? = some (.cells #[.int .i64 0] 25 (0, 0))) := HEB0.out
      have HAB : Hid (wr.heap[gA]? = some (.cells #[.iface tx vx] 45 (0, 0))) := HAB0.out
      have hA : wr.cell? ⟨gA, 0, none⟩ = some (.iface tx vx) := Lib.cell_of_heap ((HON.out.bel.block _ (lt_heap HAB.out)).trans HAB.out) 0
      have hEb := (HON.out.bel.block _ (lt_heap HEB.out)).trans HEB.out
      have hE : wr.cell? ⟨w.heap.size + 1, 0, none⟩ = some (.int .i64 0) := Lib.cell_of_heap hEb 0
      have fE : wr.frozen? ⟨w.heap.size + 1, 0, none⟩ = false := by simp only [World.frozen?, hEb]; rfl
      go_wp2
      have g1 : (wr.setCell ⟨w.heap.size + 1, 0, none⟩ (.int .i64 0)).cell? ⟨gA, 0, none⟩ = some (.iface tx vx) := by rw [World.cell?_setCell_other _ _ _ _ (by intro h; cases h; exact absurd rfl HNE.out)]; exact hA
      have g2 : (wr.setCell ⟨w.heap.size + 1, 0, none⟩ (.int .i64 0)).cell? ⟨w.heap.size + 1, 0, none⟩ = some (.int .i64 0) := World.cell?_setCell_same _ _ _ hE
      have g3 : (wr.setCell ⟨w.heap.size + 1, 0, none⟩ (.int .i64 0)).frozen? ⟨w.heap.size + 1, 0, none⟩ = false := by simp [fE]
      have hbW : Below w.heap.size w (wr.setCell ⟨w.heap.size + 1, 0, none⟩ (.int .i64 0)) := (HBW.out.trans (HON.out.bel.mono HBW.out.size)).setCell (by simp) _
      have hoW := ownsRow_setCell_below HON.out.own (a := ⟨w.heap.size + 1, 0, none⟩) (by have := lt_heap HEB.out; simpa using this) (.int .i64 0)
      generalize wr.setCell ⟨w.heap.size + 1, 0, none⟩ (.int .i64 0) = W at *
      refine leaves_cons (f := 77) (args := #[.pointer (some ⟨gA, 0, none⟩), .pointer (some ⟨w.heap.size + 1, 0, none⟩)]) (by simp) (by simp [go_sem]) ?_
      refine (namesD ⟨gA, 0, none⟩ ⟨w.heap.size + 1, 0, none⟩ (.iface tx vx) (.int .i64 0) n .returning _ (HG.out.below hbW) HE.out g1 g2 g3).mono ?_
      rintro e u' w'' ⟨rfl, rfl, w3, rfl, hb3⟩
      have hltE := World.block_lt_of_cell? _ _ g2
      have k1 : (w3.setCell ⟨w.heap.size + 1, 0, none⟩ (.int .i64 n)).cell? ⟨w.heap.size + 1, 0, none⟩ = some (.int .i64 n) := World.cell?_setCell_same _ _ _ ((hb3.cell hltE).trans g2)
      have k2 : Below w.heap.size w (w3.setCell ⟨w.heap.size + 1, 0, none⟩ (.int .i64 n)) := (hbW.trans (hb3.mono hbW.size)).setCell (by simp) _
      have k3 := ownsRow_setCell_below (own_below hoW hb3) (a := ⟨w.heap.size + 1, 0, none⟩) (by have := lt_heap HEB.out; simpa using this) (.int .i64 n)
      generalize w3.setCell ⟨w.heap.size + 1, 0, none⟩ (.int .i64 n) = w4 at *
      simp [Leaves, settle, results, Tryz.results44, go_sem, k1]
      exact ⟨World.ownsRow_nil _ _ _ _, k2⟩
  · obtain ⟨hmay, _, hn0, _⟩ := mountIs_some HMI.out
    subst hn0
    have HMAY : Hid (May ltS x) := hmay
    clear hmay
    go_enter_defers Tryz.func44, Tryz.ntmps44
    go_wp2_with fail
    refine hmt.mono ?_
    rintro e w1 ⟨ls, lv, hls, rfl, hfo, hb1⟩
    have hfin := hfo.files HMAY.out hls
    obtain ⟨lq, lc, rfl, hfi, _, _, _⟩ := hfin.lies
    obtain ⟨L, hLn⟩ : ∃ L, x.files.length = L := ⟨_, rfl⟩
    have HLN : Hid (x.files.length = L) := hLn
    have hLI : (L : Int) ≤ 32 := by have := HMAY.out.many; omega
    rw [hLn]
    clear hLn
    have bx1 := below_alloc w1 (.cells #[.int .i64 x.gen, .slice lq L lc] 142)
    have bx2 := below_alloc (w1.alloc (.cells #[.int .i64 x.gen, .slice lq L lc] 142)) (.cells #[.nilIface] 45)
    have hbx := below_bt bx1 bx2
    have hbb := below_bt hb1 hbx
    have HBW0 : Hid (Below w.heap.size w ((w1.alloc (.cells #[.int .i64 x.gen, .slice lq L lc] 142)).alloc (.cells #[.nilIface] 45))) := below_bt HB2.out hbb
    have HEB0 : Hid (((w1.alloc (.cells #[.int .i64 x.gen, .slice lq L lc] 142)).alloc (.cells #[.nilIface] 45)).heap[w.heap.size + 1]? = some (.cells #[.int .i64 0] 25 (0, 0))) := (hbb.block _ (lt_heap HEB2.out)).trans HEB2.out
    have HAB0 : Hid (((w1.alloc (.cells #[.int .i64 x.gen, .slice lq L lc] 142)).alloc (.cells #[.nilIface] 45)).heap[w1.heap.size + 1]? = some (.cells #[.nilIface] 45 (0, 0))) := by
      have h := heap_alloc_new (w1.alloc (.cells #[.int .i64 x.gen, .slice lq L lc] 142)) (.cells #[.nilIface] 45)
      rw [heap_size_alloc] at h
      exact h
    have HFI : Hid (FilesIn ((w1.alloc (.cells #[.int .i64 x.gen, .slice lq L lc] 142)).alloc (.cells #[.nilIface] 45)) lq x.files) := by
      obtain ⟨q3, c3, e3, h3, _⟩ := (hfin.below hbx).lies
      obtain ⟨e4, _, e5⟩ := Value.slice.inj e3
      rw [← e4] at h3
      exact h3
    have HE : Hid (ErrV .nilIface 0) := .inl ⟨rfl, rfl⟩
    have HNE : Hid (w1.heap.size + 1 ≠ w.heap.size + 1) := by have h1 := hb1.size; have h2 := HB2.out.size; simp at h1; show _ ≠ _; omega
    clear hbb bx1 bx2 hbx hb1 hmt hls hfo hfin hfi
    go_wp2
    generalize (w1.alloc (.cells #[.int .i64 x.gen, .slice lq L lc] 142)).alloc (.cells #[.nilIface] 45) = w0 at *
    generalize w1.heap.size = gD at *
    obtain ⟨gA, hgA⟩ : ∃ gA, gD + 1 = gA := ⟨_, rfl⟩
    rw [hgA] at HAB0 HNE ⊢
    clear hgA
    go_loopw [2, 19] (fun s i wr => ∃ k : Nat, k ≤ L ∧ i = .int .i64 (k : Int) ∧ ∃ sq sc, s = .slice sq k sc ∧ OnT w0 (.slice sq k sc) (x.files.take k) wr) (fun _ i _ => L - (intOf i).toNat)
    case atStart => exact ⟨0, by omega, rfl, none, 0, rfl, ⟨World.ownsRow_nil _ _ _ _, Below.refl _ _⟩⟩
    case round =>
      obtain ⟨k, hk, rfl, sq, sc, rfl, hon⟩ := hrel
      have HON : Hid (OnT w0 (.slice sq k sc) (x.files.take k) wr) := hon
      clear hon
      by_cases hkl : k < L
      · have hkI : (k : Int) < (L : Int) := by omega
        have hkl2 : k < x.files.length := by have := HLN.out; omega
        obtain ⟨fb, fo, pv, hfe, y0, y1, y2, hpin⟩ := HFI.out.file hkl2
        subst hfe
        have hb := HON.out.bel
        have z0 := (hb.cell (World.block_lt_of_cell? _ _ y0)).trans y0
        have z1 := (hb.cell (World.block_lt_of_cell? _ _ y1)).trans y1
        have z2 := (hb.cell (World.block_lt_of_cell? _ _ y2)).trans y2
        obtain ⟨pq, pc, rfl, _⟩ := hpin.lies
        have HTK : Hid (x.files.take (k + 1) = x.files.take k ++ [x.files.getD k zeroF]) := take_file hkl2
        have HKN : Hid ((x.files.take k).length = k ∧ k ≤ 32) := ⟨by rw [List.length_take]; omega, by omega⟩
        obtain ⟨f, hf⟩ : ∃ f, x.files.getD k zeroF = f := ⟨_, rfl⟩
        rw [hf] at z0 z1 z2 HTK
        have HKL : Hid (k < L) := hkl
        clear hb y0 y1 y2 hkl hkl2 hk hpin hf
        obtain ⟨fnm, fsz, fpc⟩ := f
        simp only at z0 z1 z2
        obtain ⟨PL, hPL⟩ : ∃ PL, fpc.length = PL := ⟨_, rfl⟩
        rw [hPL] at z2
        clear hPL
        have bxa := below_alloc wr (.cells #[.string fnm, .int .i64 fsz, .slice pq PL pc] 147)
        have bxb := below_alloc (wr.alloc (.cells #[.string fnm, .int .i64 fsz, .slice pq PL pc] 147)) (.cells #[.string fnm] 9)
        have HOW : Hid (OnT w0 (.slice sq k sc) (x.files.take k) ((wr.alloc (.cells #[.string fnm, .int .i64 fsz, .slice pq PL pc] 147)).alloc (.cells #[.string fnm] 9))) := (HON.out.next bxa).next bxb
        have HCL : Hid (∀ j u, [Value.string fnm][j]? = some u → ((wr.alloc (.cells #[.string fnm, .int .i64 fsz, .slice pq PL pc] 147)).alloc (.cells #[.string fnm] 9)).cell? ((⟨wr.heap.size + 1, 0, none⟩ : Addr).add j) = some u) := fun j u hj => by
          have hh := heap_alloc_new (wr.alloc (.cells #[.string fnm, .int .i64 fsz, .slice pq PL pc] 147)) (.cells #[.string fnm] 9)
          rw [heap_size_alloc] at hh
          have e : (⟨wr.heap.size + 1, 0, none⟩ : Addr).add j = ⟨wr.heap.size + 1, j, none⟩ := by simp [Addr.add]; intro h; omega
          rw [e, Lib.cell_of_heap hh]
          simpa using hj
        have HOWN : Hid (((wr.alloc (.cells #[.string fnm, .int .i64 fsz, .slice pq PL pc] 147)).alloc (.cells #[.string fnm] 9)).ownsRow w0.heap.size 9 1 (.slice sq k sc) k (Ts (x.files.take k))) := by have h := HOW.out.own; rw [HKN.out.1] at h; exact h
        clear bxa bxb
        go_wp2_with (at_builtin; go_loud (refine wpList_append_own _ rfl _ _ 99 rfl w0.heap.size 9 i0 _ 1 16 Tryz.underlying99 hi hz0 hz1 hz2 rfl (by omega) (.slice sq k sc) _ _ rfl HOWN.out ⟨wr.heap.size + 1, 0, none⟩ 1 1 [.string fnm] rfl rfl HCL.out (by simp [Value.oneCell']) (by have := HKN.out.2; unfold maxLen; omega) (by have := HKN.out.2; omega) HOW.out.bel.size ?_); intro va ua hoa hga _; have hoa2 : ua.ownsRow w0.heap.size 9 1 va ((x.files.take k).length + 1) (Ts (x.files.take k) ++ [.string (⟨fnm, fsz, fpc⟩ : FileV).name]) := (by rw [HKN.out.1]; exact hoa); have HNX : Hid (OnT w0 va (x.files.take k ++ [⟨fnm, fsz, fpc⟩]) ua) := HOW.out.app hga hoa2; clear hoa hoa2 hga)
        go_roundw
        case rel =>
          have hnx := HNX.out
          rw [← HTK.out] at hnx
          obtain ⟨q5, c5, rfl, _, _, _⟩ := own_form hnx.own
          have hl : (x.files.take (k + 1)).length = k + 1 := by rw [List.length_take]; have := HKL.out; have := HLN.out; omega
          rw [hl] at hnx ⊢
          exact ⟨k + 1, HKL.out, by go_num, q5, c5, rfl, hnx⟩
        case measure => have := HKL.out; simp [intOf]; omega
      · have hkI : (L : Int) ≤ (k : Int) := by omega
        have HKE : Hid (x.files.take k = x.files ∧ k = x.files.length) := ⟨List.take_of_length_le (by have := HLN.out; omega), by have := HLN.out; omega⟩
        have HBW : Hid (Below w.heap.size w w0) := HBW0.out
        have HEB : Hid (w0.heap[w.heap.size + 1]? = some (.cells #[.int .i64 0] 25 (0, 0))) := HEB0.out
        have HAB : Hid (w0.heap[gA]? = some (.cells #[.nilIface] 45 (0, 0))) := HAB0.out
        clear hkl hk
        have hA : wr.cell? ⟨gA, 0, none⟩ = some .nilIface := Lib.cell_of_heap ((HON.out.bel.block _ (lt_heap HAB.out)).trans HAB.out) 0
        have hEb := (HON.out.bel.block _ (lt_heap HEB.out)).trans HEB.out
        have hE : wr.cell? ⟨w.heap.size + 1, 0, none⟩ = some (.int .i64 0) := Lib.cell_of_heap hEb 0
        have fE : wr.frozen? ⟨w.heap.size + 1, 0, none⟩ = false := by simp only [World.frozen?, hEb]; rfl
        go_wp2
        have g1 : (wr.setCell ⟨w.heap.size + 1, 0, none⟩ (.int .i64 0)).cell? ⟨gA, 0, none⟩ = some .nilIface := by rw [World.cell?_setCell_other _ _ _ _ (by intro h; cases h; exact absurd rfl HNE.out)]; exact hA
        have g2 : (wr.setCell ⟨w.heap.size + 1, 0, none⟩ (.int .i64 0)).cell? ⟨w.heap.size + 1, 0, none⟩ = some (.int .i64 0) := World.cell?_setCell_same _ _ _ hE
        have g3 : (wr.setCell ⟨w.heap.size + 1, 0, none⟩ (.int .i64 0)).frozen? ⟨w.heap.size + 1, 0, none⟩ = false := by simp [fE]
        have hbW : Below w.heap.size w (wr.setCell ⟨w.heap.size + 1, 0, none⟩ (.int .i64 0)) := (HBW.out.trans (HON.out.bel.mono HBW.out.size)).setCell (by simp) _
        have hoW := ownsRow_setCell_below HON.out.own (a := ⟨w.heap.size + 1, 0, none⟩) (by have := lt_heap HEB.out; simpa using this) (.int .i64 0)
        generalize wr.setCell ⟨w.heap.size + 1, 0, none⟩ (.int .i64 0) = W at *
        refine leaves_cons (f := 77) (args := #[.pointer (some ⟨gA, 0, none⟩), .pointer (some ⟨w.heap.size + 1, 0, none⟩)]) (by simp) (by simp [go_sem]) ?_
        refine (namesD ⟨gA, 0, none⟩ ⟨w.heap.size + 1, 0, none⟩ .nilIface (.int .i64 0) 0 .returning _ (HG.out.below hbW) HE.out g1 g2 g3).mono ?_
        rintro e u' w'' ⟨rfl, rfl, w3, rfl, hb3⟩
        have hltE := World.block_lt_of_cell? _ _ g2
        have k1 : (w3.setCell ⟨w.heap.size + 1, 0, none⟩ (.int .i64 0)).cell? ⟨w.heap.size + 1, 0, none⟩ = some (.int .i64 0) := World.cell?_setCell_same _ _ _ ((hb3.cell hltE).trans g2)
        have k2 : Below w.heap.size w (w3.setCell ⟨w.heap.size + 1, 0, none⟩ (.int .i64 0)) := (hbW.trans (hb3.mono hbW.size)).setCell (by simp) _
        have k3 := ownsRow_setCell_below (own_below hoW hb3) (a := ⟨w.heap.size + 1, 0, none⟩) (by have := lt_heap HEB.out; simpa using this) (.int .i64 0)
        generalize w3.setCell ⟨w.heap.size + 1, 0, none⟩ (.int .i64 0) = w4 at *
        simp [Leaves, settle, results, Tryz.results44, go_sem, k1]
        refine ⟨?_, k2⟩
        have k4 := own_mono k3 HBW.out.size
        rw [HKE.out.1] at k4
        exact k4
end Go.Proofs.YtghcmllmbpoidaaGreatDoor
