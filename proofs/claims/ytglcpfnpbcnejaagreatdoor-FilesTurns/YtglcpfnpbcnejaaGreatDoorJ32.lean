/-
  Contracts of bytes.Equal and of the call Same: whether two disks are the same.
-/
import Derived.Test.YtglcpfnpbcnejaaGreatDoorJ31
import Derived.Test.YtglcpfnpbcnejaaGreatDoorJ25
import Derived.Test.YtglcpfnpbcnejaaGreatDoorJ19
import Derived.Deep.QuietTactic
import Derived.BigQuiet
namespace Go.Proofs.YtglcpfnpbcnejaaGreatDoor
open Go.RowKit Go.WideShapes Rm

theorem turnD4 (a b : Addr) (ev old : Value) (n : Int) (u : FrameMode) (w : World) (hg : ErrT w) (hv : ErrV ev n) (ha : w.cell? a = some ev) (hb : w.cell? b = some old) (hf : w.frozen? b = false) :
    CallsD Tryz.prog 37 #[.pointer (some a), .pointer (some b)] u w fun e u' w' => u' = u ∧ e = .returned (.tuple #[]) ∧ ∃ w1, w' = w1.setCell b (.int .i64 n) ∧ Below w.heap.size w w1 := by
  have hn := number_v ev n hv w hg
  have hlt := World.block_lt_of_cell? _ _ hb
  go_enter_d Tryz.func37, Tryz.ntmps37
  go_wp2_with fail
  refine hn.mono ?_
  rintro e w1 ⟨rfl, hb1⟩
  have hb2 : w1.cell? b = some old := (hb1.cell hlt).trans hb
  have hf2 : w1.frozen? b = false := (hb1.frozen hlt).trans hf
  go_wp2
  go_end0
  exact ⟨rfl, w1, rfl, hb1⟩
/-- What Turn leaves in memory. -/
structure TurnN (w : World) (S : Int → Acts → Prop) (e : Ending) (w' : World) : Prop where
  ex : ∃ m A v L, S m A ∧ e = .returned (.tuple #[v, .int .i64 m]) ∧ AOwn w' w.heap.size v L ∧ L.map Prod.fst = A ∧ Below w.heap.size w w'
set_option maxRecDepth 8000 in
set_option maxHeartbeats 4000000 in
theorem Turn_any (v : Value) (count : Int) (data : List Nat) (ws : Puts) (lq : Option Addr) (ln lc : Nat) (l : List CV) (w : World) (hL : Laid w) (hd : DiskIn w v count data ws) (r : Option (DirV × Int)) (n : Int) (hm : MountIs count data ws r n)
    (hl : ChgIn w lq ln lc l) (hvs : ∀ y ∈ l, (y.val.size : Int) ≤ 9223372036854775000) :
    Calls Tryz.prog 12 #[v, .slice lq ln lc] w fun e w' => TurnN w (TurnIs count data ws r n l) e w' := by
  obtain ⟨p, c, q, m, rfl, _⟩ := hd.parts
  have hb3 : Below w.heap.size w (((w.alloc (.cells #[.int .i64 count, .slice p data.length c, .slice q ws.length m] 25)).alloc (.cells #[.int .i64 0] 26)).alloc (.cells #[.nilIface] 76)) := ((below_alloc w _).alloc (by simp) _).alloc (by simp; omega) _
  have hgt := turn_any _ count data ws lq ln lc l (((w.alloc (.cells #[.int .i64 count, .slice p data.length c, .slice q ws.length m] 25)).alloc (.cells #[.int .i64 0] 26)).alloc (.cells #[.nilIface] 76)) (hL.below hb3) (hd.below hb3) r n hm ⟨hl.lies.below hb3, hl.len, hl.cap, hl.fits, hl.keys⟩ hvs
  have HG : Hid (ErrT w) := hL.err
  have hmf : ∀ (fn : Fn) (first cap : Array Value) (w : World), (Instr.makeFunc fn first cap).run Tryz.prog w = .ok (.func fn first cap) w := fun _ _ _ _ => rfl
  have hdk : (((w.alloc (.cells #[.int .i64 count, .slice p data.length c, .slice q ws.length m] 25)).alloc (.cells #[.int .i64 0] 26)).alloc (.cells #[.nilIface] 76)).heap[w.heap.size]? = some (.cells #[.int .i64 count, .slice p data.length c, .slice q ws.length m] 25 (0, 0)) := by
    have h1 := heap_alloc_new w (.cells #[.int .i64 count, .slice p data.length c, .slice q ws.length m] 25)
    have h2 := ((below_alloc (w.alloc (.cells #[.int .i64 count, .slice p data.length c, .slice q ws.length m] 25)) (.cells #[.int .i64 0] 26)).block _ (by simp)).trans h1
    exact ((below_alloc ((w.alloc (.cells #[.int .i64 count, .slice p data.length c, .slice q ws.length m] 25)).alloc (.cells #[.int .i64 0] 26)) (.cells #[.nilIface] 76)).block _ (by simp; omega)).trans h2
  obtain ⟨c0, c1, c2⟩ := three_cells hdk
  clear hL hd hm hdk hl hvs
  go_enter_defers Tryz.func12, Tryz.ntmps12
  go_wp2_with fail
  refine hgt.mono ?_
  rintro e w1 ⟨zn, A, lv, ev, L, hS, rfl, herr, hown, hLA, hbb⟩
  have HS : Hid (TurnIs count data ws r n l zn A ∧ L.map Prod.fst = A) := ⟨hS, hLA⟩
  have hs1 := hbb.size
  simp at hs1
  obtain ⟨ce, cr, fe, fr⟩ := vars2 (a := .int .i64 0) (b := .nilIface) (s := 26) (t := 76) (w.alloc (.cells #[.int .i64 count, .slice p data.length c, .slice q ws.length m] 25)) w1 hbb
  simp only [heap_size_alloc] at ce cr fe fr
  have HB : Hid (Below w.heap.size w w1) := hb3.trans (hbb.mono hb3.size)
  have HE : Hid (ErrV ev zn) := herr
  simp only [heap_size_alloc] at hown
  have HO : Hid (AOwn w1 (w.heap.size + 1 + 1 + 1) lv L) := hown
  clear hbb hgt hb3 c0 c1 c2 hown hS hLA
  rcases herr with ⟨_, rfl⟩ | ⟨_, hfl⟩
  · skip
    have hoW : AOwn ((w1.setCell ⟨w.heap.size + 1 + 1, 0, none⟩ .nilIface).setCell ⟨w.heap.size + 1, 0, none⟩ (.int .i64 0)) (w.heap.size + 1 + 1 + 1) lv L := (HO.out.set (a := ⟨w.heap.size + 1 + 1, 0, none⟩) (by simp) _).set (a := ⟨w.heap.size + 1, 0, none⟩) (by simp) _
    have HOW : Hid (AOwn ((w1.setCell ⟨w.heap.size + 1 + 1, 0, none⟩ .nilIface).setCell ⟨w.heap.size + 1, 0, none⟩ (.int .i64 0)) (w.heap.size + 1 + 1 + 1) lv L) := hoW
    obtain ⟨lq', lm', hlv, _, _, _⟩ := HO.out.form
    subst hlv
    have hdoor := doorV (A := ⟨w.heap.size + 1 + 1, 0, none⟩) (E := ⟨w.heap.size + 1, 0, none⟩) (by simp) cr ce fr fe (ev := .nilIface)
    have HDR : Hid (((w1.setCell ⟨w.heap.size + 1 + 1, 0, none⟩ .nilIface).setCell ⟨w.heap.size + 1, 0, none⟩ (.int .i64 0)).cell? ⟨w.heap.size + 1 + 1, 0, none⟩ = some .nilIface ∧ ((w1.setCell ⟨w.heap.size + 1 + 1, 0, none⟩ .nilIface).setCell ⟨w.heap.size + 1, 0, none⟩ (.int .i64 0)).cell? ⟨w.heap.size + 1, 0, none⟩ = some (.int .i64 0) ∧ ((w1.setCell ⟨w.heap.size + 1 + 1, 0, none⟩ .nilIface).setCell ⟨w.heap.size + 1, 0, none⟩ (.int .i64 0)).frozen? ⟨w.heap.size + 1, 0, none⟩ = false) := hdoor
    obtain ⟨ZL, hZL⟩ : ∃ ZL, L.length = ZL := ⟨_, rfl⟩
    rw [hZL] at HO HOW ⊢
    clear hdoor hoW hZL
    go_wp2
    obtain ⟨g1, g2, g3⟩ := HDR.out
    have hbW : Below w.heap.size w ((w1.setCell ⟨w.heap.size + 1 + 1, 0, none⟩ .nilIface).setCell ⟨w.heap.size + 1, 0, none⟩ (.int .i64 0)) := (HB.out.setCell (by simp; omega) _).setCell (by simp) _
    have hoW := HOW.out
    clear HOW HDR
    generalize ((w1.setCell ⟨w.heap.size + 1 + 1, 0, none⟩ .nilIface).setCell ⟨w.heap.size + 1, 0, none⟩ (.int .i64 0)) = W at *
    refine leaves_cons (f := 37) (args := #[.pointer (some ⟨w.heap.size + 1 + 1, 0, none⟩), .pointer (some ⟨w.heap.size + 1, 0, none⟩)]) (by simp) (by simp [go_sem]) ?_
    refine (turnD4 ⟨w.heap.size + 1 + 1, 0, none⟩ ⟨w.heap.size + 1, 0, none⟩ .nilIface (.int .i64 0) zn .returning _ (HG.out.below hbW) HE.out g1 g2 g3).mono ?_
    rintro e u' w'' ⟨rfl, rfl, w3, rfl, hb3⟩
    have hltE := World.block_lt_of_cell? _ _ g2
    have k1 : (w3.setCell ⟨w.heap.size + 1, 0, none⟩ (.int .i64 zn)).cell? ⟨w.heap.size + 1, 0, none⟩ = some (.int .i64 zn) := World.cell?_setCell_same _ _ _ ((hb3.cell hltE).trans g2)
    have k2 : Below w.heap.size w (w3.setCell ⟨w.heap.size + 1, 0, none⟩ (.int .i64 zn)) := (hbW.trans (hb3.mono hbW.size)).setCell (by simp) _
    have k3 := (hoW.below hb3).set (a := ⟨w.heap.size + 1, 0, none⟩) (by simp) (.int .i64 zn)
    generalize w3.setCell ⟨w.heap.size + 1, 0, none⟩ (.int .i64 zn) = w4 at *
    simp [Leaves, settle, results, Tryz.results12, go_sem, k1]
    exact ⟨⟨zn, A, _, L, HS.out.1, rfl, k3.mono (by omega), HS.out.2, k2⟩⟩
  · obtain ⟨tx, vx, rfl⟩ := hfl.iface
    clear hfl
    have hoW : AOwn ((w1.setCell ⟨w.heap.size + 1 + 1, 0, none⟩ (.iface tx vx)).setCell ⟨w.heap.size + 1, 0, none⟩ (.int .i64 0)) (w.heap.size + 1 + 1 + 1) lv L := (HO.out.set (a := ⟨w.heap.size + 1 + 1, 0, none⟩) (by simp) _).set (a := ⟨w.heap.size + 1, 0, none⟩) (by simp) _
    have HOW : Hid (AOwn ((w1.setCell ⟨w.heap.size + 1 + 1, 0, none⟩ (.iface tx vx)).setCell ⟨w.heap.size + 1, 0, none⟩ (.int .i64 0)) (w.heap.size + 1 + 1 + 1) lv L) := hoW
    obtain ⟨lq', lm', hlv, _, _, _⟩ := HO.out.form
    subst hlv
    have hdoor := doorV (A := ⟨w.heap.size + 1 + 1, 0, none⟩) (E := ⟨w.heap.size + 1, 0, none⟩) (by simp) cr ce fr fe (ev := (.iface tx vx))
    have HDR : Hid (((w1.setCell ⟨w.heap.size + 1 + 1, 0, none⟩ (.iface tx vx)).setCell ⟨w.heap.size + 1, 0, none⟩ (.int .i64 0)).cell? ⟨w.heap.size + 1 + 1, 0, none⟩ = some (.iface tx vx) ∧ ((w1.setCell ⟨w.heap.size + 1 + 1, 0, none⟩ (.iface tx vx)).setCell ⟨w.heap.size + 1, 0, none⟩ (.int .i64 0)).cell? ⟨w.heap.size + 1, 0, none⟩ = some (.int .i64 0) ∧ ((w1.setCell ⟨w.heap.size + 1 + 1, 0, none⟩ (.iface tx vx)).setCell ⟨w.heap.size + 1, 0, none⟩ (.int .i64 0)).frozen? ⟨w.heap.size + 1, 0, none⟩ = false) := hdoor
    obtain ⟨ZL, hZL⟩ : ∃ ZL, L.length = ZL := ⟨_, rfl⟩
    rw [hZL] at HO HOW ⊢
    clear hdoor hoW hZL
    go_wp2
    obtain ⟨g1, g2, g3⟩ := HDR.out
    have hbW : Below w.heap.size w ((w1.setCell ⟨w.heap.size + 1 + 1, 0, none⟩ (.iface tx vx)).setCell ⟨w.heap.size + 1, 0, none⟩ (.int .i64 0)) := (HB.out.setCell (by simp; omega) _).setCell (by simp) _
    have hoW := HOW.out
    clear HOW HDR
    generalize ((w1.setCell ⟨w.heap.size + 1 + 1, 0, none⟩ (.iface tx vx)).setCell ⟨w.heap.size + 1, 0, none⟩ (.int .i64 0)) = W at *
    refine leaves_cons (f := 37) (args := #[.pointer (some ⟨w.heap.size + 1 + 1, 0, none⟩), .pointer (some ⟨w.heap.size + 1, 0, none⟩)]) (by simp) (by simp [go_sem]) ?_
    refine (turnD4 ⟨w.heap.size + 1 + 1, 0, none⟩ ⟨w.heap.size + 1, 0, none⟩ (.iface tx vx) (.int .i64 0) zn .returning _ (HG.out.below hbW) HE.out g1 g2 g3).mono ?_
    rintro e u' w'' ⟨rfl, rfl, w3, rfl, hb3⟩
    have hltE := World.block_lt_of_cell? _ _ g2
    have k1 : (w3.setCell ⟨w.heap.size + 1, 0, none⟩ (.int .i64 zn)).cell? ⟨w.heap.size + 1, 0, none⟩ = some (.int .i64 zn) := World.cell?_setCell_same _ _ _ ((hb3.cell hltE).trans g2)
    have k2 : Below w.heap.size w (w3.setCell ⟨w.heap.size + 1, 0, none⟩ (.int .i64 zn)) := (hbW.trans (hb3.mono hbW.size)).setCell (by simp) _
    have k3 := (hoW.below hb3).set (a := ⟨w.heap.size + 1, 0, none⟩) (by simp) (.int .i64 zn)
    generalize w3.setCell ⟨w.heap.size + 1, 0, none⟩ (.int .i64 zn) = w4 at *
    simp [Leaves, settle, results, Tryz.results12, go_sem, k1]
    exact ⟨⟨zn, A, _, L, HS.out.1, rfl, k3.mono (by omega), HS.out.2, k2⟩⟩
end Go.Proofs.YtglcpfnpbcnejaaGreatDoor
namespace Go.Proofs.YtglcpfnpbcnejaaGreatDoor
open Go.RowKit Go.WideShapes Rm

def emptyD : DirV := ⟨1, []⟩
theorem empty_may : May ltS emptyD := ⟨by decide, by decide, by simp [emptyD], by simp [emptyD, Rises], by decide +kernel, by simp [emptyD]⟩
theorem empty_dir : IsDir ltS emptyD (bytesN emptyD) := ⟨empty_may, by decide +kernel, rfl⟩
/-- The bytes of a disk behind Format. -/
def FmtIs (n : Nat) (D : List Nat) : Prop := doN (n : Int) (List.replicate (n * 128) 0, []) (turnA [] 0 emptyD) = .ok (D, [])
theorem zeros_okay {n : Nat} (h1 : 96 ≤ n) (h2 : n ≤ 4096) : Okay (n : Int) (List.replicate (n * 128) 0) [] := by
  refine ⟨by omega, by omega, by simp, by simp, by simp⟩
theorem fmt_ex {n : Nat} (h1 : 96 ≤ n) (h2 : n ≤ 4096) : ∃ D, FmtIs n D := by
  have hl : (turnA [] 0 emptyD).length ≤ 9 := by decide +kernel
  obtain ⟨D, W, h⟩ := can_do (count := (n : Int)) (B := turnA [] 0 emptyD) (data := List.replicate (n * 128) 0) (ws := []) (by
    intro a ha
    rcases List.mem_append.1 ha with h | h
    · simp at h
    · rcases List.mem_append.1 h with h | h
      · obtain ⟨i, hi, rfl⟩ := List.mem_map.1 h
        rw [List.mem_range] at hi
        exact .inr ⟨by simp only; omega, by simp only; omega, (sec_bytes empty_dir hi).1⟩
      · rw [List.mem_singleton.1 h]
        exact .inl rfl) (by simp; omega)
  have := turn_sure h
  subst this
  exact ⟨D, h⟩
theorem fmt_okay {n : Nat} {D : List Nat} (h1 : 96 ≤ n) (h2 : n ≤ 4096) (h : FmtIs n D) : Okay (n : Int) D [] := okay_do _ (s := (List.replicate (n * 128) 0, [])) (s' := (D, [])) (zeros_okay h1 h2) h
theorem zero_now {n : Nat} (s : Nat) (h2 : s < n) : nowN (List.replicate (n * 128) 0) [] (s : Int) = List.replicate 128 0 := by
  show secN _ _ = _
  unfold secN
  rw [List.drop_replicate, List.take_replicate, show ((s : Int)).toNat = s from rfl]
  congr 1
  omega
end Go.Proofs.YtglcpfnpbcnejaaGreatDoor
namespace Go.Proofs.YtglcpfnpbcnejaaGreatDoor
open Go.RowKit Go.WideShapes Rm

def toV (c : CV) : ChgV := ⟨c.key, numsOf c.val, c.gone⟩
theorem putting_of (l : List CV) : puttingN (l.map toV) = csOf (putsC l) := by
  unfold puttingN csOf putsC
  rw [List.filter_map, List.map_map]
  rfl
theorem vals_of (l : List CV) : (puttingN (l.map toV)).map Prod.snd = valsOf (putsC l) := by
  rw [putting_of]
  unfold csOf valsOf
  rw [List.map_map]
  rfl
theorem stay_of (old : List FileV) (l : List CV) : stayN old (l.map toV) = old.filter fun f => !namedC l f.name := by
  unfold stayN namedC
  refine List.filter_congr fun f _ => ?_
  rw [List.all_map]
  induction l with
  | nil => rfl
  | cons c l ih =>
    simp only [List.all_cons, List.any_cons, Bool.not_or, ih]
    congr 1
    by_cases hh : c.key = f.name <;> simp [toV, hh]
theorem fromC_zero {old : List FileV} {l : List CV} : ∀ {m k : Nat}, fromC old l m k = 0 → ∀ j, k ≤ j → j < k + m → oneC old l j = 0
  | 0, k, _, j, h1, h2 => by omega
  | m + 1, k, h, j, h1, h2 => by
    rw [fromC] at h
    split at h
    · rename_i h3
      exact absurd h h3
    · rename_i h3
      have h4 : oneC old l k = 0 := Classical.byContradiction h3
      rcases Nat.lt_or_ge k j with h5 | h5
      · exact fromC_zero h j (by omega) (by omega)
      · rw [show j = k by omega]; exact h4
theorem chg_each {old : List FileV} {l : List CV} (h : chgE old l = 0) {k : Nat} (hk : k < l.length) : isNameN (l.getD k zeroCV).key = true ∧ namedC (l.take k) (l.getD k zeroCV).key = false := by
  unfold chgE at h
  split at h
  · cases h
  · have h1 := fromC_zero h k (by omega) (by omega)
    unfold oneC at h1
    split at h1
    · cases h1
    · split at h1
      · cases h1
      · rename_i a b
        exact ⟨by simpa using a, by simpa using b⟩
theorem chg_pair {old : List FileV} {l : List CV} (h : chgE old l = 0) : (l.map toV).Pairwise fun c d => c.key ≠ d.key := by
  rw [List.pairwise_map, List.pairwise_iff_getElem]
  intro i j hi hj hij e
  have h1 := (chg_each h hj).2
  rw [named_hit (k := i) (by rw [List.length_take]; omega) ?_] at h1
  · cases h1
  · rw [List.getD_eq_getElem?_getD, List.getElem?_take_of_lt hij, List.getElem?_eq_getElem hi, List.getD_eq_getElem?_getD, List.getElem?_eq_getElem hj]
    exact e
/-- A turn that can be done: all that the mathematics asks. -/
structure TurnOk (count : Int) (data : List Nat) (ws : Puts) (l : List CV) (x y : DirV) (at_ other : Nat) (fs : List FileV) (A : Acts) : Prop where
  hao : (at_ = 0 ∧ other = 8) ∨ (at_ = 8 ∧ other = 0)
  ho : Okay count data ws
  hc : 96 ≤ count
  hsx : SlotR ltS count (slotK data ws at_ 8) (some x)
  hso : ∃ o, SlotR ltS count (slotK data ws other 8) o ∧ mountS at_ (some x) o = some (x, (at_ : Int))
  hy : IsDir ltS y (bytesN y)
  hxy : x.gen < y.gen
  hg : ∀ i, i < 8 → ((beg8 (nowN data ws ((other + i : Nat) : Int)) : Nat) : Int) ≠ y.gen
  hd : (l.map toV).Pairwise fun c d => c.key ≠ d.key
  hpl : placeN count (allPcs x.files) (puttingN (l.map toV)) = .ok fs
  hmem : ∀ f, f ∈ y.files ↔ f ∈ stayN x.files (l.map toV) ∨ f ∈ fs
  hA : A = turnA (filesA fs ((puttingN (l.map toV)).map Prod.snd)) other y
theorem mount_slot {count : Int} {data : List Nat} {ws : Puts} {x : DirV} {o : Nat} {n : Int} (ho : o = 0 ∨ o = 8) (h : MountIs count data ws (some (x, 8 - (o : Int))) n) : SlotR ltS count (slotK data ws (8 - o) 8) (some x) ∧ ∃ z, SlotR ltS count (slotK data ws o 8) z ∧ mountS (8 - o) (some x) z = some (x, ((8 - o : Nat) : Int)) := by
  rcases h with ⟨_, h, _⟩ | ⟨_, _, h, _⟩ | ⟨_, _, a, b, ha, hb, h, _⟩
  · cases h
  · cases h
  · rcases ho with rfl | rfl
    · have e : b = some x := by
        cases a with
        | none => cases b with
          | none => cases h
          | some y => simp [mountR] at h; rw [h]
        | some z => cases b with
          | none => simp [mountR] at h
          | some y =>
            simp only [mountR] at h
            split at h
            · simp only [Option.some.injEq, Prod.mk.injEq] at h; rw [h.1]
            · simp only [Option.some.injEq, Prod.mk.injEq] at h; exact absurd h.2 (by decide)
      subst e
      exact ⟨hb, a, ha, by show mountR a (some x) = _; rw [← h]; rfl⟩
    · have e : a = some x := by
        cases a with
        | none => cases b with
          | none => cases h
          | some y => simp [mountR] at h
        | some z => cases b with
          | none => simp [mountR] at h; rw [h]
          | some y =>
            simp only [mountR] at h
            split at h
            · simp only [Option.some.injEq, Prod.mk.injEq] at h; exact absurd h.2 (by decide)
            · simp only [Option.some.injEq, Prod.mk.injEq] at h; rw [h.1]
      subst e
      exact ⟨ha, b, hb, by show mountR (some x) b = _; rw [← h]; rfl⟩
theorem turnIs_ok {count : Int} {data : List Nat} {ws : Puts} {r : Option (DirV × Int)} {n : Int} {l : List CV} {A : Acts} (hm : MountIs count data ws r n) (h : TurnIs count data ws r n l 0 A) : ∃ (x y : DirV) (at_ other : Nat) (fs : List FileV), r = some (x, (at_ : Int)) ∧ TurnOk count data ws l x y at_ other fs A := by
  generalize hz : (0 : Int) = z at h
  cases h with
  | none h =>
    subst h
    rcases mountIs_none hm with h | h <;> omega
  | chg x at_ E h hE h0 => exact absurd hz.symm h0
  | many x at_ h hE hm' => cases hz
  | place x at_ E h hE hm' hp => exact absurd hz.symm (place_ne hp)
  | last x o P h ho hE hm' hp hG => cases hz
  | bad x o P ss G m b h ho hE hm' hp hG hG2 hpm hup hw hm0 => exact absurd hz.symm hm0
  | ok x o P ss G b F h ho hE hm' hp hG hG2 hpm hup hw hF =>
    subst h
    have hms := mount_slot ho hm
    have hsm := mountIs_some hm
    have hG' : G < 4611686018427387904 := by
      have h1 := genK_hi data ws o x.gen hsm.1.hi 8
      omega
    have hfr := next_fresh hG hG'
    cases hw with
    | ok h1 h2 =>
      refine ⟨x, ⟨G, ss⟩, 8 - o, o, P, ?_, ⟨by omega, hsm.2.2.2.2, hsm.2.2.2.1, hms.1, hms.2, ⟨h1, h2, rfl⟩, hfr.1, hfr.2, chg_pair hE, by rw [putting_of]; exact hp, fun f => ?_, ?_⟩⟩
      · have : ((8 - o : Nat) : Int) = 8 - (o : Int) := by omega
        rw [this]
      · rw [stay_of]
        show f ∈ ss ↔ _
        rw [← hpm.mem_iff, List.mem_append]
      · rw [vals_of, hF]
        rfl
def ltB (a b : ByteArray) : Bool := Op.bytesLess a.toList b.toList
theorem ltB_irr (a : ByteArray) : ltB a a = false := bl_irrefl _
theorem ltB_tr (a b c : ByteArray) (h1 : ltB a b = true) (h2 : ltB b c = true) : ltB a c = true := bl_trans _ _ _ h1 h2
theorem ba_list {a b : ByteArray} (h : a.toList = b.toList) : a = b := by
  rw [ByteArray.toList_eq, ByteArray.toList_eq] at h
  rcases a with ⟨a⟩; rcases b with ⟨b⟩
  rcases a with ⟨a⟩; rcases b with ⟨b⟩
  simp at h; rw [h]
theorem ltB_tot (a b : ByteArray) (h : a ≠ b) : ltB a b = true ∨ ltB b a = true := by
  cases h1 : ltB a b with
  | true => exact .inl rfl
  | false =>
    cases h2 : ltB b a with
    | true => exact .inr rfl
    | false => exact absurd (ba_list (bl_tri _ _ h1 h2)) h
end Go.Proofs.YtglcpfnpbcnejaaGreatDoor
namespace Go.Proofs.YtglcpfnpbcnejaaGreatDoor
set_option maxRecDepth 8000
open Go.RowKit Go.WideShapes

theorem conv_bytes {w : World} {p : Option Addr} {xs : List Nat} (h : BIn w p xs) (c : Nat) : (convert 22 9 (.slice p xs.length c)).run Tryz.prog w = .ok (.string (strOf xs)) w :=
  bin_conv Tryz.underlying22 Tryz.underlying5 Tryz.underlying9 h rfl c
theorem str_eq {xs ys : List Nat} (hx : ∀ c ∈ xs, c < 256) (hy : ∀ c ∈ ys, c < 256) : ((strOf xs).toList == (strOf ys).toList) = decide (xs = ys) := by
  rw [ByteArray.toList_eq, ByteArray.toList_eq, Bool.eq_iff_iff]
  simp only [decide_eq_true_eq, beq_iff_eq]
  exact strOf_eq hx hy
theorem below_drewND {B : Nat} {a w : World} (h : Below B a w) (n : Nat) : Below B a (w.drewN n) := ⟨h.os, h.tape, h.output, h.size, h.block⟩
/-- Are two disks the same? -/
def SameD (c1 c2 : Int) (d1 d2 : List Nat) (w1 w2 : Puts) : Prop := c1 = c2 ∧ d1 = d2 ∧ w1 = w2
theorem same_step {w1 w2 : Puts} {k : Nat} (h1 : k < w1.length) (h2 : k < w2.length) (h : w1.take k = w2.take k) (he : w1.getD k (0, []) = w2.getD k (0, [])) : w1.take (k + 1) = w2.take (k + 1) := by
  rw [take_getD h1, take_getD h2, h, he]
theorem same_not {w1 w2 : Puts} {k : Nat} (he : w1.getD k (0, []) ≠ w2.getD k (0, [])) : w1 ≠ w2 := fun h => he (by rw [h])
theorem same_all {w1 w2 : Puts} (hl : w1.length = w2.length) (h : w1.take w1.length = w2.take w1.length) : w1 = w2 := by
  rw [List.take_length, hl, List.take_length] at h; exact h

end Go.Proofs.YtglcpfnpbcnejaaGreatDoor
