/-
  Contracts of the statements' own helpers ones and large.
-/
import Derived.Test.YtiakfdhbbkpfhaaGreatDoorJ28
import Derived.Test.YtiakfdhbbkpfhaaGreatDoorJ16
import Derived.Deep.QuietTactic
import Derived.BigQuiet
namespace Go.Proofs.YtiakfdhbbkpfhaaGreatDoor
open Go.RowKit Go.WideShapes Rm

theorem turnD4 (a b : Addr) (ev old : Value) (n : Int) (u : FrameMode) (w : World) (hg : ErrT w) (hv : ErrV ev n) (ha : w.cell? a = some ev) (hb : w.cell? b = some old) (hf : w.frozen? b = false) :
    CallsD Tryz.prog 37 #[.pointer (some a), .pointer (some b)] u w fun e u' w' => u' = u ∧ e = .returned (.tuple #[]) ∧ ∃ w1, w' = w1.setCell b (.int .i64 n) ∧ Below w.heap.size w w1 := by
  have hn := number_v ev n hv w hg
  have hlt := World.block_lt_of_cell? _ _ hb
  go_enter_d Tryz.func37, Tryz.ntmps37
  go_wp2_with fail
  refine hn.mono ?_
  rintro e w1 ⟨rfl, hb1⟩
  have hb2 : w1.cell? b = some old := (hb1.cell hlt).trans hb
  have hf2 : w1.frozen? b = false := (hb1.frozen hlt).trans hf
  go_wp2
  go_end0
  exact ⟨rfl, w1, rfl, hb1⟩
/-- What Turn leaves in memory. -/
structure TurnN (w : World) (S : Int → Acts → Prop) (e : Ending) (w' : World) : Prop where
  ex : ∃ m A v L, S m A ∧ e = .returned (.tuple #[v, .int .i64 m]) ∧ AOwn w' w.heap.size v L ∧ L.map Prod.fst = A ∧ Below w.heap.size w w'
set_option maxRecDepth 8000 in
set_option maxHeartbeats 4000000 in
theorem Turn_any (v : Value) (count : Int) (data : List Nat) (ws : Puts) (lq : Option Addr) (ln lc : Nat) (l : List CV) (w : World) (hL : Laid w) (hd : DiskIn w v count data ws) (r : Option (DirV × Int)) (n : Int) (hm : MountIs count data ws r n)
    (hl : ChgIn w lq ln lc l) (hvs : ∀ y ∈ l, (y.val.size : Int) ≤ 9223372036854775000) :
    Calls Tryz.prog 12 #[v, .slice lq ln lc] w fun e w' => TurnN w (TurnIs count data ws r n l) e w' := by
  obtain ⟨p, c, q, m, rfl, _⟩ := hd.parts
  have hb3 : Below w.heap.size w (((w.alloc (.cells #[.int .i64 count, .slice p data.length c, .slice q ws.length m] 25)).alloc (.cells #[.int .i64 0] 26)).alloc (.cells #[.nilIface] 76)) := ((below_alloc w _).alloc (by simp) _).alloc (by simp; omega) _
  have hgt := turn_any _ count data ws lq ln lc l (((w.alloc (.cells #[.int .i64 count, .slice p data.length c, .slice q ws.length m] 25)).alloc (.cells #[.int .i64 0] 26)).alloc (.cells #[.nilIface] 76)) (hL.below hb3) (hd.below hb3) r n hm ⟨hl.lies.below hb3, hl.len, hl.cap, hl.fits, hl.keys⟩ hvs
  have HG : Hid (ErrT w) := hL.err
  have hmf : ∀ (fn : Fn) (first cap : Array Value) (w : World), (Instr.makeFunc fn first cap).run Tryz.prog w = .ok (.func fn first cap) w := fun _ _ _ _ => rfl
  have hdk : (((w.alloc (.cells #[.int .i64 count, .slice p data.length c, .slice q ws.length m] 25)).alloc (.cells #[.int .i64 0] 26)).alloc (.cells #[.nilIface] 76)).heap[w.heap.size]? = some (.cells #[.int .i64 count, .slice p data.length c, .slice q ws.length m] 25 (0, 0)) := by
    have h1 := heap_alloc_new w (.cells #[.int .i64 count, .slice p data.length c, .slice q ws.length m] 25)
    have h2 := ((below_alloc (w.alloc (.cells #[.int .i64 count, .slice p data.length c, .slice q ws.length m] 25)) (.cells #[.int .i64 0] 26)).block _ (by simp)).trans h1
    exact ((below_alloc ((w.alloc (.cells #[.int .i64 count, .slice p data.length c, .slice q ws.length m] 25)).alloc (.cells #[.int .i64 0] 26)) (.cells #[.nilIface] 76)).block _ (by simp; omega)).trans h2
  obtain ⟨c0, c1, c2⟩ := three_cells hdk
  clear hL hd hm hdk hl hvs
  go_enter_defers Tryz.func12, Tryz.ntmps12
  go_wp2_with fail
  refine hgt.mono ?_
  rintro e w1 ⟨zn, A, lv, ev, L, hS, rfl, herr, hown, hLA, hbb⟩
  have HS : Hid (TurnIs count data ws r n l zn A ∧ L.map Prod.fst = A) := ⟨hS, hLA⟩
  have hs1 := hbb.size
  simp at hs1
  obtain ⟨ce, cr, fe, fr⟩ := vars2 (a := .int .i64 0) (b := .nilIface) (s := 26) (t := 76) (w.alloc (.cells #[.int .i64 count, .slice p data.length c, .slice q ws.length m] 25)) w1 hbb
  simp only [heap_size_alloc] at ce cr fe fr
  have HB : Hid (Below w.heap.size w w1) := hb3.trans (hbb.mono hb3.size)
  have HE : Hid (ErrV ev zn) := herr
  simp only [heap_size_alloc] at hown
  have HO : Hid (AOwn w1 (w.heap.size + 1 + 1 + 1) lv L) := hown
  clear hbb hgt hb3 c0 c1 c2 hown hS hLA
  rcases herr with ⟨_, rfl⟩ | ⟨_, hfl⟩
  · skip
    have hoW : AOwn ((w1.setCell ⟨w.heap.size + 1 + 1, 0, none⟩ .nilIface).setCell ⟨w.heap.size + 1, 0, none⟩ (.int .i64 0)) (w.heap.size + 1 + 1 + 1) lv L := (HO.out.set (a := ⟨w.heap.size + 1 + 1, 0, none⟩) (by simp) _).set (a := ⟨w.heap.size + 1, 0, none⟩) (by simp) _
    have HOW : Hid (AOwn ((w1.setCell ⟨w.heap.size + 1 + 1, 0, none⟩ .nilIface).setCell ⟨w.heap.size + 1, 0, none⟩ (.int .i64 0)) (w.heap.size + 1 + 1 + 1) lv L) := hoW
    obtain ⟨lq', lm', hlv, _, _, _⟩ := HO.out.form
    subst hlv
    have hdoor := doorV (A := ⟨w.heap.size + 1 + 1, 0, none⟩) (E := ⟨w.heap.size + 1, 0, none⟩) (by simp) cr ce fr fe (ev := .nilIface)
    have HDR : Hid (((w1.setCell ⟨w.heap.size + 1 + 1, 0, none⟩ .nilIface).setCell ⟨w.heap.size + 1, 0, none⟩ (.int .i64 0)).cell? ⟨w.heap.size + 1 + 1, 0, none⟩ = some .nilIface ∧ ((w1.setCell ⟨w.heap.size + 1 + 1, 0, none⟩ .nilIface).setCell ⟨w.heap.size + 1, 0, none⟩ (.int .i64 0)).cell? ⟨w.heap.size + 1, 0, none⟩ = some (.int .i64 0) ∧ ((w1.setCell ⟨w.heap.size + 1 + 1, 0, none⟩ .nilIface).setCell ⟨w.heap.size + 1, 0, none⟩ (.int .i64 0)).frozen? ⟨w.heap.size + 1, 0, none⟩ = false) := hdoor
    obtain ⟨ZL, hZL⟩ : ∃ ZL, L.length = ZL := ⟨_, rfl⟩
    rw [hZL] at HO HOW ⊢
    clear hdoor hoW hZL
    go_wp2
    obtain ⟨g1, g2, g3⟩ := HDR.out
    have hbW : Below w.heap.size w ((w1.setCell ⟨w.heap.size + 1 + 1, 0, none⟩ .nilIface).setCell ⟨w.heap.size + 1, 0, none⟩ (.int .i64 0)) := (HB.out.setCell (by simp; omega) _).setCell (by simp) _
    have hoW := HOW.out
    clear HOW HDR
    generalize ((w1.setCell ⟨w.heap.size + 1 + 1, 0, none⟩ .nilIface).setCell ⟨w.heap.size + 1, 0, none⟩ (.int .i64 0)) = W at *
    refine leaves_cons (f := 37) (args := #[.pointer (some ⟨w.heap.size + 1 + 1, 0, none⟩), .pointer (some ⟨w.heap.size + 1, 0, none⟩)]) (by simp) (by simp [go_sem]) ?_
    refine (turnD4 ⟨w.heap.size + 1 + 1, 0, none⟩ ⟨w.heap.size + 1, 0, none⟩ .nilIface (.int .i64 0) zn .returning _ (HG.out.below hbW) HE.out g1 g2 g3).mono ?_
    rintro e u' w'' ⟨rfl, rfl, w3, rfl, hb3⟩
    have hltE := World.block_lt_of_cell? _ _ g2
    have k1 : (w3.setCell ⟨w.heap.size + 1, 0, none⟩ (.int .i64 zn)).cell? ⟨w.heap.size + 1, 0, none⟩ = some (.int .i64 zn) := World.cell?_setCell_same _ _ _ ((hb3.cell hltE).trans g2)
    have k2 : Below w.heap.size w (w3.setCell ⟨w.heap.size + 1, 0, none⟩ (.int .i64 zn)) := (hbW.trans (hb3.mono hbW.size)).setCell (by simp) _
    have k3 := (hoW.below hb3).set (a := ⟨w.heap.size + 1, 0, none⟩) (by simp) (.int .i64 zn)
    generalize w3.setCell ⟨w.heap.size + 1, 0, none⟩ (.int .i64 zn) = w4 at *
    simp [Leaves, settle, results, Tryz.results12, go_sem, k1]
    exact ⟨⟨zn, A, _, L, HS.out.1, rfl, k3.mono (by omega), HS.out.2, k2⟩⟩
  · obtain ⟨tx, vx, rfl⟩ := hfl.iface
    clear hfl
    have hoW : AOwn ((w1.setCell ⟨w.heap.size + 1 + 1, 0, none⟩ (.iface tx vx)).setCell ⟨w.heap.size + 1, 0, none⟩ (.int .i64 0)) (w.heap.size + 1 + 1 + 1) lv L := (HO.out.set (a := ⟨w.heap.size + 1 + 1, 0, none⟩) (by simp) _).set (a := ⟨w.heap.size + 1, 0, none⟩) (by simp) _
    have HOW : Hid (AOwn ((w1.setCell ⟨w.heap.size + 1 + 1, 0, none⟩ (.iface tx vx)).setCell ⟨w.heap.size + 1, 0, none⟩ (.int .i64 0)) (w.heap.size + 1 + 1 + 1) lv L) := hoW
    obtain ⟨lq', lm', hlv, _, _, _⟩ := HO.out.form
    subst hlv
    have hdoor := doorV (A := ⟨w.heap.size + 1 + 1, 0, none⟩) (E := ⟨w.heap.size + 1, 0, none⟩) (by simp) cr ce fr fe (ev := (.iface tx vx))
    have HDR : Hid (((w1.setCell ⟨w.heap.size + 1 + 1, 0, none⟩ (.iface tx vx)).setCell ⟨w.heap.size + 1, 0, none⟩ (.int .i64 0)).cell? ⟨w.heap.size + 1 + 1, 0, none⟩ = some (.iface tx vx) ∧ ((w1.setCell ⟨w.heap.size + 1 + 1, 0, none⟩ (.iface tx vx)).setCell ⟨w.heap.size + 1, 0, none⟩ (.int .i64 0)).cell? ⟨w.heap.size + 1, 0, none⟩ = some (.int .i64 0) ∧ ((w1.setCell ⟨w.heap.size + 1 + 1, 0, none⟩ (.iface tx vx)).setCell ⟨w.heap.size + 1, 0, none⟩ (.int .i64 0)).frozen? ⟨w.heap.size + 1, 0, none⟩ = false) := hdoor
    obtain ⟨ZL, hZL⟩ : ∃ ZL, L.length = ZL := ⟨_, rfl⟩
    rw [hZL] at HO HOW ⊢
    clear hdoor hoW hZL
    go_wp2
    obtain ⟨g1, g2, g3⟩ := HDR.out
    have hbW : Below w.heap.size w ((w1.setCell ⟨w.heap.size + 1 + 1, 0, none⟩ (.iface tx vx)).setCell ⟨w.heap.size + 1, 0, none⟩ (.int .i64 0)) := (HB.out.setCell (by simp; omega) _).setCell (by simp) _
    have hoW := HOW.out
    clear HOW HDR
    generalize ((w1.setCell ⟨w.heap.size + 1 + 1, 0, none⟩ (.iface tx vx)).setCell ⟨w.heap.size + 1, 0, none⟩ (.int .i64 0)) = W at *
    refine leaves_cons (f := 37) (args := #[.pointer (some ⟨w.heap.size + 1 + 1, 0, none⟩), .pointer (some ⟨w.heap.size + 1, 0, none⟩)]) (by simp) (by simp [go_sem]) ?_
    refine (turnD4 ⟨w.heap.size + 1 + 1, 0, none⟩ ⟨w.heap.size + 1, 0, none⟩ (.iface tx vx) (.int .i64 0) zn .returning _ (HG.out.below hbW) HE.out g1 g2 g3).mono ?_
    rintro e u' w'' ⟨rfl, rfl, w3, rfl, hb3⟩
    have hltE := World.block_lt_of_cell? _ _ g2
    have k1 : (w3.setCell ⟨w.heap.size + 1, 0, none⟩ (.int .i64 zn)).cell? ⟨w.heap.size + 1, 0, none⟩ = some (.int .i64 zn) := World.cell?_setCell_same _ _ _ ((hb3.cell hltE).trans g2)
    have k2 : Below w.heap.size w (w3.setCell ⟨w.heap.size + 1, 0, none⟩ (.int .i64 zn)) := (hbW.trans (hb3.mono hbW.size)).setCell (by simp) _
    have k3 := (hoW.below hb3).set (a := ⟨w.heap.size + 1, 0, none⟩) (by simp) (.int .i64 zn)
    generalize w3.setCell ⟨w.heap.size + 1, 0, none⟩ (.int .i64 zn) = w4 at *
    simp [Leaves, settle, results, Tryz.results12, go_sem, k1]
    exact ⟨⟨zn, A, _, L, HS.out.1, rfl, k3.mono (by omega), HS.out.2, k2⟩⟩
end Go.Proofs.YtiakfdhbbkpfhaaGreatDoor
namespace Go.Proofs.YtiakfdhbbkpfhaaGreatDoor
open Go.RowKit Go.WideShapes Rm

def emptyD : DirV := ⟨1, []⟩
theorem empty_may : May ltS emptyD := ⟨by decide, by decide, by simp [emptyD], by simp [emptyD, Rises], by decide +kernel, by simp [emptyD]⟩
theorem empty_dir : IsDir ltS emptyD (bytesN emptyD) := ⟨empty_may, by decide +kernel, rfl⟩
/-- The bytes of a disk behind Format. -/
def FmtIs (n : Nat) (D : List Nat) : Prop := doN (n : Int) (List.replicate (n * 128) 0, []) (turnA [] 0 emptyD) = .ok (D, [])
theorem zeros_okay {n : Nat} (h1 : 96 ≤ n) (h2 : n ≤ 4096) : Okay (n : Int) (List.replicate (n * 128) 0) [] := by
  refine ⟨by omega, by omega, by simp, by simp, by simp⟩
theorem fmt_ex {n : Nat} (h1 : 96 ≤ n) (h2 : n ≤ 4096) : ∃ D, FmtIs n D := by
  have hl : (turnA [] 0 emptyD).length ≤ 9 := by decide +kernel
  obtain ⟨D, W, h⟩ := can_do (count := (n : Int)) (B := turnA [] 0 emptyD) (data := List.replicate (n * 128) 0) (ws := []) (by
    intro a ha
    rcases List.mem_append.1 ha with h | h
    · simp at h
    · rcases List.mem_append.1 h with h | h
      · obtain ⟨i, hi, rfl⟩ := List.mem_map.1 h
        rw [List.mem_range] at hi
        exact .inr ⟨by simp only; omega, by simp only; omega, (sec_bytes empty_dir hi).1⟩
      · rw [List.mem_singleton.1 h]
        exact .inl rfl) (by simp; omega)
  have := turn_sure h
  subst this
  exact ⟨D, h⟩
theorem fmt_okay {n : Nat} {D : List Nat} (h1 : 96 ≤ n) (h2 : n ≤ 4096) (h : FmtIs n D) : Okay (n : Int) D [] := okay_do _ (s := (List.replicate (n * 128) 0, [])) (s' := (D, [])) (zeros_okay h1 h2) h
theorem fmt_slots {n : Nat} {D : List Nat} (h1 : 96 ≤ n) (h2 : n ≤ 4096) (h : FmtIs n D) : slotK D [] 0 8 = bytesN emptyD ∧ ∀ i, i < 8 → nowN D [] ((8 + i : Nat) : Int) = nowN (List.replicate (n * 128) 0) [] ((8 + i : Nat) : Int) := by
  have ho := zeros_okay h1 h2
  constructor
  · rw [← eight_secs (bytes_len empty_dir)]
    refine flat_congr fun i hi => now_put (by omega) ho h (fun X hX => ?_) ?_
    · rcases turnA_mem hX with h | ⟨j, hj, e1, e2⟩
      · cases h
      · obtain rfl : i = j := by omega
        exact e2
    · unfold turnA
      exact List.mem_append.2 (.inr (List.mem_append.2 (.inl (List.mem_map.2 ⟨i, List.mem_range.2 hi, rfl⟩))))
  · intro i hi
    refine now_keep (by omega) ho h fun X hX => ?_
    rcases turnA_mem hX with h | ⟨j, hj, e1, _⟩
    · cases h
    · omega
theorem zero_now {n : Nat} (s : Nat) (h2 : s < n) : nowN (List.replicate (n * 128) 0) [] (s : Int) = List.replicate 128 0 := by
  show secN _ _ = _
  unfold secN
  rw [List.drop_replicate, List.take_replicate, show ((s : Int)).toNat = s from rfl]
  congr 1
  omega
theorem zeros_slot : (List.range 8).flatMap (fun _ => List.replicate 128 0) = List.replicate 1024 0 := by decide +kernel
theorem fmt_other {n : Nat} {D : List Nat} (h1 : 96 ≤ n) (h2 : n ≤ 4096) (h : FmtIs n D) : slotK D [] 8 8 = List.replicate 1024 0 := by
  rw [← zeros_slot]
  refine flat_congr fun i hi => ?_
  rw [(fmt_slots h1 h2 h).2 i hi, zero_now (8 + i) (by omega)]
theorem zeros_none : ∀ x, ¬ IsDir ltS x (List.replicate 1024 0) := by
  intro x hx
  have hb : IsDir ltS x (bytesN x) := ⟨hx.1, hx.2.1, rfl⟩
  have h := (sec_bytes hb (i := 0) (by decide)).2
  rw [← hx.2.2, show beg8 (secAt (List.replicate 1024 0) 0) = 0 by decide +kernel] at h
  have := hx.1.lo
  omega
theorem fmt_mount {n : Nat} {D : List Nat} (h1 : 96 ≤ n) (h2 : n ≤ 4096) (h : FmtIs n D) : MountIs (n : Int) D [] (some (emptyD, 0)) 0 := by
  obtain ⟨a, b⟩ := fmt_slots h1 h2 h
  refine .inr (.inr ⟨fmt_okay h1 h2 h, by omega, some emptyD, none, ?_, ?_, rfl, rfl⟩)
  · rw [a]
    exact ⟨empty_dir, (errK_fits empty_may.pcs ⟨by omega, by omega⟩).2 (fun p hp => by cases hp)⟩
  · rw [fmt_other h1 h2 h]
    intro x hx
    exact absurd hx (zeros_none x)
end Go.Proofs.YtiakfdhbbkpfhaaGreatDoor
namespace Go.Proofs.YtiakfdhbbkpfhaaGreatDoor
set_option maxRecDepth 8000
open Go.RowKit Go.WideShapes

theorem conv_bytes {w : World} {p : Option Addr} {xs : List Nat} (h : BIn w p xs) (c : Nat) : (convert 22 9 (.slice p xs.length c)).run Tryz.prog w = .ok (.string (strOf xs)) w :=
  bin_conv Tryz.underlying22 Tryz.underlying5 Tryz.underlying9 h rfl c
theorem str_eq {xs ys : List Nat} (hx : ∀ c ∈ xs, c < 256) (hy : ∀ c ∈ ys, c < 256) : ((strOf xs).toList == (strOf ys).toList) = decide (xs = ys) := by
  rw [ByteArray.toList_eq, ByteArray.toList_eq, Bool.eq_iff_iff]
  simp only [decide_eq_true_eq, beq_iff_eq]
  exact strOf_eq hx hy
theorem below_drewND {B : Nat} {a w : World} (h : Below B a w) (n : Nat) : Below B a (w.drewN n) := ⟨h.os, h.tape, h.output, h.size, h.block⟩
/-- Are two disks the same? -/
def SameD (c1 c2 : Int) (d1 d2 : List Nat) (w1 w2 : Puts) : Prop := c1 = c2 ∧ d1 = d2 ∧ w1 = w2
theorem same_step {w1 w2 : Puts} {k : Nat} (h1 : k < w1.length) (h2 : k < w2.length) (h : w1.take k = w2.take k) (he : w1.getD k (0, []) = w2.getD k (0, [])) : w1.take (k + 1) = w2.take (k + 1) := by
  rw [take_getD h1, take_getD h2, h, he]
theorem same_not {w1 w2 : Puts} {k : Nat} (he : w1.getD k (0, []) ≠ w2.getD k (0, [])) : w1 ≠ w2 := fun h => he (by rw [h])
theorem same_all {w1 w2 : Puts} (hl : w1.length = w2.length) (h : w1.take w1.length = w2.take w1.length) : w1 = w2 := by
  rw [List.take_length, hl, List.take_length] at h; exact h

end Go.Proofs.YtiakfdhbbkpfhaaGreatDoor
namespace Go.Proofs.YtiakfdhbbkpfhaaGreatDoor
set_option maxRecDepth 8000
open Go.RowKit Go.WideShapes

def onesK (x k : Nat) : List Nat := List.replicate k x ++ List.replicate (128 - k) 0
theorem onesK_len (x k : Nat) (h : k ≤ 128) : (onesK x k).length = 128 := by simp [onesK]; omega
theorem onesK_step (x k : Nat) (h : k < 128) : (onesK x k).set k x = onesK x (k + 1) := by
  unfold onesK
  rw [List.set_append_right _ _ (by simp), List.length_replicate, Nat.sub_self, show 128 - k = (128 - (k + 1)) + 1 from by omega, List.replicate_succ, List.set_cons_zero, List.replicate_succ', List.append_assoc]
  rfl
theorem Bs_set (xs : List Nat) (k x : Nat) : (Bs xs).toArray.setIfInBounds k (.int .u8 x) = (Bs (xs.set k x)).toArray := by
  simp [Bs, List.map_set]

/-- Is a disk larger than the statements go through? -/
def largeN (count : Int) (data : List Nat) (ws : Puts) : Prop := (40000 < data.length ∧ 0 < count ∧ count ≤ 4096) ∨ 600000 < data.length ∨ (300 < ws.length ∧ ws.length < 4090) ∨ 4200 < ws.length
instance (count : Int) (data : List Nat) (ws : Puts) : Decidable (largeN count data ws) := by unfold largeN; infer_instance
end Go.Proofs.YtiakfdhbbkpfhaaGreatDoor
