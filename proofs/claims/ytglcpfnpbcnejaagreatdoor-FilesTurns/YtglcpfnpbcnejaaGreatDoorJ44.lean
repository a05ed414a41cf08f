/-
  The two Formats, the two Mounts, a copy of changes, rows written over: for the law FilesTurns.
-/
import Derived.Test.YtglcpfnpbcnejaaGreatDoorJ36
import Derived.Test.YtglcpfnpbcnejaaGreatDoorJ21
import Derived.Test.YtglcpfnpbcnejaaGreatDoorJ29
import Derived.Test.YtglcpfnpbcnejaaGreatDoorJ15
import Derived.OpenShut
import Derived.Deep.QuietTactic
import Derived.Test.YtglcpfnpbcnejaaGreatDoorJ35
import Derived.Test.YtglcpfnpbcnejaaGreatDoorJ39
import Derived.Test.YtglcpfnpbcnejaaGreatDoorJ40
import Derived.Test.YtglcpfnpbcnejaaGreatDoorJ42
import Derived.Test.YtglcpfnpbcnejaaGreatDoorJ43
import Derived.Test.YtglcpfnpbcnejaaGreatDoorJ38
namespace Go.Proofs.YtglcpfnpbcnejaaGreatDoor
open Go.RowKit Go.WideShapes Rm

set_option maxRecDepth 4000 in
set_option maxHeartbeats 2000000 in
/-- Two directories that are one. -/
theorem sameDir_yes (va vb : Value) (x : DirV) (w : World) (ha : DirIn w va x) (hb : DirIn w vb x) :
    Calls Tryz.prog 25 #[va, vb] w fun e w' => e = .returned (.bool true) ∧ Below w.heap.size w w' := by
  obtain ⟨fa, rfl, hfa⟩ := ha.lies
  obtain ⟨fb, rfl, hfb⟩ := hb.lies
  obtain ⟨gen, l⟩ := x
  have hgw := ha.wf
  unfold wf64 at hgw
  simp only at hfa hfb hgw
  obtain ⟨qa, ca, rfl, hqa, hla, hma, _⟩ := hfa.lies
  obtain ⟨qb, cb, rfl, hqb, hlb, hmb, _⟩ := hfb.lies
  unfold maxLen at hma hmb
  have HA : Hid (FilesIn w qa l) := hqa
  have HB : Hid (FilesIn w qb l) := hqb
  clear hqa hqb hfa hfb ha hb
  go_enter Tryz.func25, Tryz.ntmps25
  go_wp2
  go_loopw [5] (fun i wr => ∃ k : Nat, k ≤ l.length ∧ i = .int .i64 k ∧ Below (w.heap.size + 2) ((w.alloc (.cells #[.int .i64 gen, .slice qa l.length ca] 31)).alloc (.cells #[.int .i64 gen, .slice qb l.length cb] 31)) wr) (fun i _ => l.length - (intOf i).toNat)
  case atStart => exact ⟨0, by omega, rfl, Below.refl _ _⟩
  case round =>
    obtain ⟨k, hk, rfl, hbel⟩ := hrel
    have hsz := hbel.size
    simp at hsz
    have hA : wr.heap[w.heap.size]? = some (.cells #[.int .i64 gen, .slice qa l.length ca] 31 (0, 0)) := (hbel.block _ (by omega)).trans ((Below.heap_alloc _ _ _ (by simp)).trans (heap_alloc_new w _))
    have hB : wr.heap[w.heap.size + 1]? = some (.cells #[.int .i64 gen, .slice qb l.length cb] 31 (0, 0)) := (hbel.block _ (by omega)).trans (by have := heap_alloc_new (w.alloc (.cells #[.int .i64 gen, .slice qa l.length ca] 31)) (.cells #[.int .i64 gen, .slice qb l.length cb] 31); simpa using this)
    have a1 : wr.cell? ⟨w.heap.size, 1, none⟩ = some (.slice qa l.length ca) := cell_of_row _ _ _ _ _ _ hA
    have b1 : wr.cell? ⟨w.heap.size + 1, 1, none⟩ = some (.slice qb l.length cb) := cell_of_row _ _ _ _ _ _ hB
    have hbw : Below w.heap.size w wr := ((below_alloc w _).alloc (by simp) _).trans (hbel.mono (by omega))
    have HBW : Hid (Below w.heap.size w wr) := hbw
    have HBE : Hid _ := hbel
    clear hA hB hbel
    by_cases hkl : k < l.length
    · obtain ⟨ba, oa, rfl⟩ := HA.out.addr (by omega)
      obtain ⟨bb, ob, rfl⟩ := HB.out.addr (by omega)
      obtain ⟨e0, e1, pa, e2, hpa⟩ := (HA.out.below hbw).at hkl
      obtain ⟨f0, f1, pb, f2, hpb⟩ := (HB.out.below hbw).at hkl
      obtain ⟨qpa, cpa, rfl, _⟩ := hpa.lies
      obtain ⟨qpb, cpb, rfl, _⟩ := hpb.lies
      have HPA : Hid _ := hpa
      have HPB : Hid _ := hpb
      clear hbw hpa hpb
      generalize l.getD k zeroF = y at *
      obtain ⟨nm, sz, pl⟩ := y
      simp only at e0 e1 e2 f0 f1 f2
      have hkI : (k : Int) < (l.length : Int) := by omega
      have lt1 : ∀ (a : Addr) (v : Value), wr.cell? a = some v → ∀ o, (wr.alloc o).cell? a = some v := fun a v h o => (World.cell?_alloc_lt _ _ _ (World.block_lt_of_cell? _ _ h)).trans h
      have lt2 : ∀ (a : Addr) (v : Value), wr.cell? a = some v → ∀ o o', ((wr.alloc o).alloc o').cell? a = some v := fun a v h o o' => (World.cell?_alloc_lt _ _ _ (by have := World.block_lt_of_cell? _ _ h; simp; omega)).trans (lt1 a v h o)
      have a1x := lt1 _ _ a1; have a1y := lt2 _ _ a1
      have b1x := lt1 _ _ b1; have b1y := lt2 _ _ b1
      have e0x := lt1 _ _ e0; have e0y := lt2 _ _ e0
      have e1x := lt1 _ _ e1; have e1y := lt2 _ _ e1
      have e2x := lt1 _ _ e2; have e2y := lt2 _ _ e2
      have f0x := lt1 _ _ f0; have f0y := lt2 _ _ f0
      have f1x := lt1 _ _ f1; have f1y := lt2 _ _ f1
      have f2x := lt1 _ _ f2; have f2y := lt2 _ _ f2
      clear lt1 lt2
      go_wp2
      go_region
      · have hbW : Below wr.heap.size wr (((wr.alloc (.cells #[.string nm, .int .i64 sz, .slice qpa pl.length cpa] 51)).alloc (.cells #[.string nm, .int .i64 sz, .slice qpb pl.length cpb] 51)).drew) := ((below_alloc wr _).alloc (by simp) _).drew
        have hsm := Rm.rsame_any _ _ pl pl (((wr.alloc (.cells #[.string nm, .int .i64 sz, .slice qpa pl.length cpa] 51)).alloc (.cells #[.string nm, .int .i64 sz, .slice qpb pl.length cpb] 51)).drew) (PIn.below HPA.out hbW) (PIn.below HPB.out hbW)
        rw [sameB_yes rfl] at hsm
        have HBN : Hid _ := hbW
        clear hbW
        go_wp2_with (go_at_call 57; refine hsm.mono ?_; rintro e w2 ⟨rfl, hb2⟩)
        go_roundw
        case rel => exact ⟨k + 1, by omega, by go_num, HBE.out.trans ((Below.trans HBN.out (hb2.mono (by simp [World.drew]; omega))).mono (by omega))⟩
        case measure => simp [intOf]; omega
      · have hbW : Below wr.heap.size wr (((wr.alloc (.cells #[.string nm, .int .i64 sz, .slice qpb pl.length cpb] 51)).alloc (.cells #[.string nm, .int .i64 sz, .slice qpa pl.length cpa] 51)).drew) := ((below_alloc wr _).alloc (by simp) _).drew
        have hsm := Rm.rsame_any _ _ pl pl (((wr.alloc (.cells #[.string nm, .int .i64 sz, .slice qpb pl.length cpb] 51)).alloc (.cells #[.string nm, .int .i64 sz, .slice qpa pl.length cpa] 51)).drew) (PIn.below HPA.out hbW) (PIn.below HPB.out hbW)
        rw [sameB_yes rfl] at hsm
        have HBN : Hid _ := hbW
        clear hbW
        go_wp2_with (go_at_call 57; refine hsm.mono ?_; rintro e w2 ⟨rfl, hb2⟩)
        go_roundw
        case rel => exact ⟨k + 1, by omega, by go_num, HBE.out.trans ((Below.trans HBN.out (hb2.mono (by simp [World.drew]; omega))).mono (by omega))⟩
        case measure => simp [intOf]; omega
    · obtain rfl : k = l.length := by omega
      clear hbw
      go_wp2
      go_ret
      exact ⟨rfl, HBW.out⟩
end Go.Proofs.YtglcpfnpbcnejaaGreatDoor
namespace Go.Proofs.YtglcpfnpbcnejaaGreatDoor
open Go.RowKit Go.WideShapes Rm

theorem mountD (a b : Addr) (ev old : Value) (n : Int) (u : FrameMode) (w : World) (hg : ErrT w) (hv : ErrV ev n) (ha : w.cell? a = some ev) (hb : w.cell? b = some old) (hf : w.frozen? b = false) :
    CallsD Tryz.prog 32 #[.pointer (some a), .pointer (some b)] u w fun e u' w' => u' = u ∧ e = .returned (.tuple #[]) ∧ ∃ w1, w' = w1.setCell b (.int .i64 n) ∧ Below w.heap.size w w1 := by
  have hn := number_v ev n hv w hg
  have hlt := World.block_lt_of_cell? _ _ hb
  go_enter_d Tryz.func32, Tryz.ntmps32
  go_wp2_with fail
  refine hn.mono ?_
  rintro e w1 ⟨rfl, hb1⟩
  have hb2 : w1.cell? b = some old := (hb1.cell hlt).trans hb
  have hf2 : w1.frozen? b = false := (hb1.frozen hlt).trans hf
  go_wp2
  go_end0
  exact ⟨rfl, w1, rfl, hb1⟩
/-- What Mount answers. -/
def MountQ (w : World) (r : Option (DirV × Int)) (n : Int) (e : Ending) (w' : World) : Prop :=
  match r with
  | some (x, _) => ∃ ls lv, n = 0 ∧ ls.map Prod.fst = x.files ∧ e = .returned (.tuple #[.agg #[.int .i64 x.gen, lv], .int .i64 0]) ∧ FOwn w' w.heap.size lv ls ∧ Below w.heap.size w w'
  | none => e = .returned (.tuple #[.agg #[.int .i64 0, .slice none 0 0], .int .i64 n]) ∧ Below w.heap.size w w'
theorem mountQ_some {w w' : World} {r : Option (DirV × Int)} {n at_ : Int} {e : Ending} {x : DirV} {ls : FPs} {lv : Value} (hr : r = some (x, at_)) (hn : r ≠ none → n = 0) (hl : ls.map Prod.fst = x.files) (he : e = .returned (.tuple #[.agg #[.int .i64 x.gen, lv], .int .i64 0])) (hf : FOwn w' w.heap.size lv ls) (hb : Below w.heap.size w w') : MountQ w r n e w' := by
  have h0 := hn (by rw [hr]; simp)
  subst hr
  exact ⟨ls, lv, h0, hl, he, hf, hb⟩
theorem mountQ_none {w w' : World} {r : Option (DirV × Int)} {n : Int} {e : Ending} (hr : r = none) (he : e = .returned (.tuple #[.agg #[.int .i64 0, .slice none 0 0], .int .i64 n])) (hb : Below w.heap.size w w') : MountQ w r n e w' := by
  subst hr
  exact ⟨he, hb⟩
theorem mountP_bel {w w' : World} {r : Option (DirV × Int)} {n : Int} {e : Ending} (h : MountP w r n e w') : Below w.heap.size w w' := by
  rcases r with _ | ⟨x, at_⟩
  · obtain ⟨_, _, _, h⟩ := h
    exact h
  · obtain ⟨_, _, _, _, _, h⟩ := h
    exact h
theorem mountP_or {w w' : World} {r : Option (DirV × Int)} {n : Int} {e : Ending} (h : MountP w r n e w') : (∃ x at_ ls lv, r = some (x, at_) ∧ ls.map Prod.fst = x.files ∧ e = .returned (.tuple #[.agg #[.int .i64 x.gen, lv], .int .i64 at_, .nilIface]) ∧ FOwn w' w.heap.size lv ls) ∨ (∃ ev, r = none ∧ e = .returned (.tuple #[.agg #[.int .i64 0, .slice none 0 0], .int .i64 0, ev]) ∧ Faults ev n) := by
  rcases r with _ | ⟨x, at_⟩
  · obtain ⟨ev, h1, h2, _⟩ := h
    exact .inr ⟨ev, rfl, h1, h2⟩
  · obtain ⟨ls, lv, h1, h2, h3, _⟩ := h
    exact .inl ⟨x, at_, ls, lv, rfl, h1, h2, h3⟩
set_option maxRecDepth 8000 in
set_option maxHeartbeats 4000000 in
theorem Mount_any (v : Value) (count : Int) (data : List Nat) (ws : Puts) (w : World) (hL : Laid w) (hd : DiskIn w v count data ws) (r : Option (DirV × Int)) (n : Int) (hm : MountIs count data ws r n) :
    Calls Tryz.prog 9 #[v] w fun e w' => MountQ w r n e w' := by
  obtain ⟨p, c, q, m, rfl, _⟩ := hd.parts
  obtain ⟨dl, hdl⟩ : ∃ k, data.length = k := ⟨_, rfl⟩
  obtain ⟨wl, hwl⟩ : ∃ k, ws.length = k := ⟨_, rfl⟩
  rw [hdl, hwl] at hd ⊢
  obtain ⟨w0, hw0⟩ : ∃ w0, w.alloc (.cells #[.int .i64 count, .slice p dl c, .slice q wl m] 25) = w0 := ⟨_, rfl⟩
  have HB0 : Hid (Below w.heap.size w w0) := by show Below _ _ _; rw [← hw0]; exact below_alloc _ _
  have HX0 : Hid (w0.heap[w.heap.size]? = some (.cells #[.int .i64 count, .slice p dl c, .slice q wl m] 25 (0, 0))) := by show _ = _; rw [← hw0]; exact heap_alloc_new _ _
  have hb3 : Below w0.heap.size w0 (((w0.alloc (.cells #[.int .i64 0, .slice none 0 0] 31)).alloc (.cells #[.int .i64 0] 26)).alloc (.cells #[.nilIface] 76)) := ((below_alloc w0 _).alloc (by simp) _).alloc (by simp; omega) _
  have hrd := mount_any _ count data ws (((w0.alloc (.cells #[.int .i64 0, .slice none 0 0] 31)).alloc (.cells #[.int .i64 0] 26)).alloc (.cells #[.nilIface] 76)) (hL.below (below_bt HB0.out hb3)) (hd.below (below_bt HB0.out hb3)) r n hm
  have HG : Hid (ErrT w0) := (hL.below HB0.out).err
  have HNZ : Hid (r = none → n ≠ 0) := fun h => by subst h; rcases mountIs_none hm with h | h <;> omega
  have HN0 : Hid (r ≠ none → n = 0) := fun h => by
    rcases r with _ | ⟨x, s⟩
    · exact absurd rfl h
    · exact (mountIs_some hm).2.2.1
  obtain ⟨dc0, dc1, dc2⟩ := three_cells ((hb3.block _ (lt_heap HX0.out)).trans HX0.out)
  have hmf : ∀ (fn : Fn) (first cap : Array Value) (w : World), (Instr.makeFunc fn first cap).run Tryz.prog w = .ok (.func fn first cap) w := fun _ _ _ _ => rfl
  clear hL hd hm hdl hwl
  go_enter_defers Tryz.func9, Tryz.ntmps9
  go_upto_region 1 with fail
  (try rw [hw0])
  clear hw0
  go_wp2_with fail
  refine hrd.mono ?_
  rintro e w1 hpost
  clear dc0 dc1 dc2
  have hbb : Below (((w0.alloc (.cells #[.int .i64 0, .slice none 0 0] 31)).alloc (.cells #[.int .i64 0] 26)).alloc (.cells #[.nilIface] 76)).heap.size (((w0.alloc (.cells #[.int .i64 0, .slice none 0 0] 31)).alloc (.cells #[.int .i64 0] 26)).alloc (.cells #[.nilIface] 76)) w1 := by
    exact mountP_bel hpost
  have hs1 := hbb.size
  simp at hs1
  obtain ⟨cE, cA, fE, fA⟩ := vars2 (a := .int .i64 0) (b := .nilIface) (s := 26) (t := 76) (w0.alloc (.cells #[.int .i64 0, .slice none 0 0] 31)) w1 hbb
  simp only [heap_size_alloc] at cE cA fE fA
  have hbx : Below (w0.heap.size + 1) (w0.alloc (.cells #[.int .i64 0, .slice none 0 0] 31)) w1 := (((Below.refl _ _).alloc (by simp) _).alloc (by simp) _).trans (hbb.mono (by simp))
  obtain ⟨c0, c1⟩ := box2 hbx
  obtain ⟨f0, f1⟩ := box2f hbx
  have HB : Hid (Below w0.heap.size w0 w1) := box_below hbx
  clear hbb hbx hrd hb3
  have hpost2 := mountP_or hpost
  clear hpost
  rcases hpost2 with ⟨x, at_, ls, lv, hd, hls, rfl, hfo⟩ | ⟨ev, hno, rfl, hfl⟩
  · have HDI : Hid (r = some (x, at_)) := hd
    have HLS : Hid (ls.map Prod.fst = x.files) := hls
    have hfo' : FOwn w1 (w0.heap.size + 1 + 1 + 1) lv ls := by simpa using hfo
    have HFO : Hid (FOwn w1 (w0.heap.size + 1 + 1 + 1) lv ls) := hfo'
    obtain ⟨ql, ml, rfl, _⟩ := hfo.form
    have HEV : Hid (ErrV .nilIface 0) := .inl ⟨rfl, rfl⟩
    clear hd hls hfo hfo'
    go_wp2
    have g1 := rdA (g := .int .i64 x.gen) (lv := .slice ql ls.length ml) (ev := .nilIface) (D := w0.heap.size) (E := w0.heap.size + 1) (A := w0.heap.size + 1 + 1) (by omega) (by omega) cA
    have g2 := rdE (g := .int .i64 x.gen) (lv := .slice ql ls.length ml) (ev := .nilIface) (D := w0.heap.size) (E := w0.heap.size + 1) (A := w0.heap.size + 1 + 1) (by omega) (by omega) cE
    have g3 := rdF (g := .int .i64 x.gen) (lv := .slice ql ls.length ml) (ev := .nilIface) (D := w0.heap.size) (E := w0.heap.size + 1) (A := w0.heap.size + 1 + 1) fE
    have g4 := rd0 (g := .int .i64 x.gen) (lv := .slice ql ls.length ml) (ev := .nilIface) (D := w0.heap.size) (E := w0.heap.size + 1) (A := w0.heap.size + 1 + 1) (by omega) (by omega) c0
    have g5 := rd1 (g := .int .i64 x.gen) (lv := .slice ql ls.length ml) (ev := .nilIface) (D := w0.heap.size) (E := w0.heap.size + 1) (A := w0.heap.size + 1 + 1) (by omega) (by omega) c1
    have g6 := fun k h1 h2 h3 => rdH (w1 := w1) (g := .int .i64 x.gen) (lv := .slice ql ls.length ml) (ev := .nilIface) (D := w0.heap.size) (E := w0.heap.size + 1) (A := w0.heap.size + 1 + 1) (k := k) h1 h2 h3
    have g7 := rdS (w1 := w1) (g := .int .i64 x.gen) (lv := .slice ql ls.length ml) (ev := .nilIface) (D := w0.heap.size) (E := w0.heap.size + 1) (A := w0.heap.size + 1 + 1)
    have hbW := rdB (g := .int .i64 x.gen) (lv := .slice ql ls.length ml) (ev := .nilIface) (D := w0.heap.size) (E := w0.heap.size + 1) (A := w0.heap.size + 1 + 1) HB.out (by omega) (by omega) (by omega)
    generalize (((((w1.setCell ⟨w0.heap.size, 0, none⟩ (.int .i64 x.gen)).setCell ⟨w0.heap.size, 1, none⟩ (.slice ql ls.length ml)).setCell ⟨w0.heap.size + 1 + 1, 0, none⟩ (.nilIface)).setCell ⟨w0.heap.size, 0, none⟩ (.int .i64 x.gen)).setCell ⟨w0.heap.size, 1, none⟩ (.slice ql ls.length ml)).setCell ⟨w0.heap.size + 1, 0, none⟩ (.int .i64 0) = W at *
    refine leaves_cons (f := 32) (args := #[.pointer (some ⟨w0.heap.size + 1 + 1, 0, none⟩), .pointer (some ⟨w0.heap.size + 1, 0, none⟩)]) (by simp) (by simp [go_sem]) ?_
    refine (mountD ⟨w0.heap.size + 1 + 1, 0, none⟩ ⟨w0.heap.size + 1, 0, none⟩ (.nilIface) (.int .i64 0) 0 .returning _ (HG.out.below hbW) HEV.out g1 g2 g3).mono ?_
    rintro e u' w'' ⟨rfl, rfl, w3, rfl, hb3⟩
    have hlE := World.block_lt_of_cell? _ _ g2
    have hlD := World.block_lt_of_cell? _ _ g4
    have k1 : (w3.setCell ⟨w0.heap.size + 1, 0, none⟩ (.int .i64 0)).cell? ⟨w0.heap.size + 1, 0, none⟩ = some (.int .i64 0) := World.cell?_setCell_same _ _ _ ((hb3.cell hlE).trans g2)
    have k4 : (w3.setCell ⟨w0.heap.size + 1, 0, none⟩ (.int .i64 0)).cell? ⟨w0.heap.size, 0, none⟩ = some (.int .i64 x.gen) := by rw [World.cell?_setCell_other _ _ _ _ (by simp)]; exact (hb3.cell hlD).trans g4
    have k5 : (w3.setCell ⟨w0.heap.size + 1, 0, none⟩ (.int .i64 0)).cell? ⟨w0.heap.size, 1, none⟩ = some (.slice ql ls.length ml) := by rw [World.cell?_setCell_other _ _ _ _ (by simp)]; exact (hb3.cell (World.block_lt_of_cell? _ _ g5)).trans g5
    have k2 : Below w0.heap.size w0 (w3.setCell ⟨w0.heap.size + 1, 0, none⟩ (.int .i64 0)) := (hbW.trans (hb3.mono hbW.size)).setCell (by simp) _
    have k6 : ∀ k, w0.heap.size + 1 + 1 + 1 ≤ k → k < w1.heap.size → (w3.setCell ⟨w0.heap.size + 1, 0, none⟩ (.int .i64 0)).heap[k]? = w1.heap[k]? := fun k hk hk2 => by
      rw [Below.heap_setCell _ _ _ _ (by simp; omega), hb3.block k (by omega), g6 k (by omega) (by omega) (by omega)]
    generalize w3.setCell ⟨w0.heap.size + 1, 0, none⟩ (.int .i64 0) = w4 at *
    simp [Leaves, settle, results_cells Tryz.results9, go_sem, k1, k4, k5]
    exact mountQ_some HDI.out HN0.out HLS.out rfl ((HFO.out.keepB k6).mono (by have := HB0.out.size; omega)) (below_bt HB0.out k2)
  · have HN : Hid (r = none) := hno
    have HEV : Hid (ErrV ev n) := .inr ⟨HNZ.out hno, hfl⟩
    obtain ⟨tx, vx, rfl⟩ := hfl.iface
    clear hno hfl
    go_wp2
    have g1 := rdA (g := .int .i64 0) (lv := .slice none 0 0) (ev := .iface tx vx) (D := w0.heap.size) (E := w0.heap.size + 1) (A := w0.heap.size + 1 + 1) (by omega) (by omega) cA
    have g2 := rdE (g := .int .i64 0) (lv := .slice none 0 0) (ev := .iface tx vx) (D := w0.heap.size) (E := w0.heap.size + 1) (A := w0.heap.size + 1 + 1) (by omega) (by omega) cE
    have g3 := rdF (g := .int .i64 0) (lv := .slice none 0 0) (ev := .iface tx vx) (D := w0.heap.size) (E := w0.heap.size + 1) (A := w0.heap.size + 1 + 1) fE
    have g4 := rd0 (g := .int .i64 0) (lv := .slice none 0 0) (ev := .iface tx vx) (D := w0.heap.size) (E := w0.heap.size + 1) (A := w0.heap.size + 1 + 1) (by omega) (by omega) c0
    have g5 := rd1 (g := .int .i64 0) (lv := .slice none 0 0) (ev := .iface tx vx) (D := w0.heap.size) (E := w0.heap.size + 1) (A := w0.heap.size + 1 + 1) (by omega) (by omega) c1
    have g6 := fun k h1 h2 h3 => rdH (w1 := w1) (g := .int .i64 0) (lv := .slice none 0 0) (ev := .iface tx vx) (D := w0.heap.size) (E := w0.heap.size + 1) (A := w0.heap.size + 1 + 1) (k := k) h1 h2 h3
    have g7 := rdS (w1 := w1) (g := .int .i64 0) (lv := .slice none 0 0) (ev := .iface tx vx) (D := w0.heap.size) (E := w0.heap.size + 1) (A := w0.heap.size + 1 + 1)
    have hbW := rdB (g := .int .i64 0) (lv := .slice none 0 0) (ev := .iface tx vx) (D := w0.heap.size) (E := w0.heap.size + 1) (A := w0.heap.size + 1 + 1) HB.out (by omega) (by omega) (by omega)
    generalize (((((w1.setCell ⟨w0.heap.size, 0, none⟩ (.int .i64 0)).setCell ⟨w0.heap.size, 1, none⟩ (.slice none 0 0)).setCell ⟨w0.heap.size + 1 + 1, 0, none⟩ (.iface tx vx)).setCell ⟨w0.heap.size, 0, none⟩ (.int .i64 0)).setCell ⟨w0.heap.size, 1, none⟩ (.slice none 0 0)).setCell ⟨w0.heap.size + 1, 0, none⟩ (.int .i64 0) = W at *
    refine leaves_cons (f := 32) (args := #[.pointer (some ⟨w0.heap.size + 1 + 1, 0, none⟩), .pointer (some ⟨w0.heap.size + 1, 0, none⟩)]) (by simp) (by simp [go_sem]) ?_
    refine (mountD ⟨w0.heap.size + 1 + 1, 0, none⟩ ⟨w0.heap.size + 1, 0, none⟩ (.iface tx vx) (.int .i64 0) n .returning _ (HG.out.below hbW) HEV.out g1 g2 g3).mono ?_
    rintro e u' w'' ⟨rfl, rfl, w3, rfl, hb3⟩
    have hlE := World.block_lt_of_cell? _ _ g2
    have hlD := World.block_lt_of_cell? _ _ g4
    have k1 : (w3.setCell ⟨w0.heap.size + 1, 0, none⟩ (.int .i64 n)).cell? ⟨w0.heap.size + 1, 0, none⟩ = some (.int .i64 n) := World.cell?_setCell_same _ _ _ ((hb3.cell hlE).trans g2)
    have k4 : (w3.setCell ⟨w0.heap.size + 1, 0, none⟩ (.int .i64 n)).cell? ⟨w0.heap.size, 0, none⟩ = some (.int .i64 0) := by rw [World.cell?_setCell_other _ _ _ _ (by simp)]; exact (hb3.cell hlD).trans g4
    have k5 : (w3.setCell ⟨w0.heap.size + 1, 0, none⟩ (.int .i64 n)).cell? ⟨w0.heap.size, 1, none⟩ = some (.slice none 0 0) := by rw [World.cell?_setCell_other _ _ _ _ (by simp)]; exact (hb3.cell (World.block_lt_of_cell? _ _ g5)).trans g5
    have k2 : Below w0.heap.size w0 (w3.setCell ⟨w0.heap.size + 1, 0, none⟩ (.int .i64 n)) := (hbW.trans (hb3.mono hbW.size)).setCell (by simp) _
    have k6 : ∀ k, w0.heap.size + 1 + 1 + 1 ≤ k → k < w1.heap.size → (w3.setCell ⟨w0.heap.size + 1, 0, none⟩ (.int .i64 n)).heap[k]? = w1.heap[k]? := fun k hk hk2 => by
      rw [Below.heap_setCell _ _ _ _ (by simp; omega), hb3.block k (by omega), g6 k (by omega) (by omega) (by omega)]
    generalize w3.setCell ⟨w0.heap.size + 1, 0, none⟩ (.int .i64 n) = w4 at *
    simp [Leaves, settle, results_cells Tryz.results9, go_sem, k1, k4, k5]
    exact mountQ_none HN.out rfl (below_bt HB0.out k2)
end Go.Proofs.YtglcpfnpbcnejaaGreatDoor
namespace Go.Proofs.YtglcpfnpbcnejaaGreatDoor
open Go.RowKit Go.WideShapes Go.ChangeShapes Go.Deep Go.Joins

structure WfC (y : CV) : Prop where
  key : y.key.size ≤ maxLen
  val : y.val.size ≤ maxLen
structure Chgs (w : World) (v : Value) (l : List CV) : Prop where
  lies : ∃ q c, v = .slice q l.length c ∧ CsIn w q l ∧ l.length ≤ c ∧ c ≤ maxLen ∧ (q = none → c = 0)
  wf : ∀ y ∈ l, WfC y
section
variable {P : Program} {w : World} {H : Type} {enc : TypeId × Value → H}
theorem open_change {e : TypeId} {f0 f1 f2 : Field} {n : Nat} {cs : List Value} {x : DataW H × List MemPlace} (he : P.underlying e = some (.struct #[f0, f1, f2])) (hl : cs.length = 3)
    (o0 : f0.offset = 0) (o1 : f1.offset = 1) (o2 : f2.offset = 2) (c0 : P.cellsOf f0.type = 1) (c1 : P.cellsOf f1.type = 1) (c2 : P.cellsOf f2.type = 1) (k0 : P.underlying f0.type = some .string) (k1 : P.underlying f1.type = some .string) (k2 : P.underlying f2.type = some .bool)
    (h : DataW.trod enc P w 0 (fun _ => true) true n e cs = some x) : ∃ y : CV, cs = [.string y.key, .string y.val, .bool y.gone] ∧ WfC y := by
  obtain ⟨xs, k', hk, hxy, _, hxl, hf⟩ := DataW.trod_struct he h
  match xs, hxl, cs, hl with
  | [y0, y1, y2], _, [v0, v1, v2], _ =>
    have r0 := hf 0 f0 rfl
    have r1 := hf 1 f1 rfl
    have r2 := hf 2 f2 rfl
    simp [o0, o1, o2, c0, c1, c2] at r0 r1 r2
    obtain ⟨s, hs, _, hsz⟩ := DataW.trod_string k0 r0
    obtain ⟨s1, hs1, _, hsz1⟩ := DataW.trod_string k1 r1
    obtain ⟨g, hg, _⟩ := DataW.trod_bool k2 r2
    simp only [List.cons.injEq, and_true] at hs hs1 hg
    subst hs hs1 hg
    exact ⟨⟨s, s1, g⟩, rfl, ⟨hsz, hsz1⟩⟩
theorem open_changes {t e : TypeId} {f0 f1 f2 : Field} {n : Nat} {v : Value} {x : DataW H × List MemPlace} (ht : P.underlying t = some (.slice e)) (he : P.underlying e = some (.struct #[f0, f1, f2])) (ce : P.cellsOf e = 3)
    (o0 : f0.offset = 0) (o1 : f1.offset = 1) (o2 : f2.offset = 2) (c0 : P.cellsOf f0.type = 1) (c1 : P.cellsOf f1.type = 1) (c2 : P.cellsOf f2.type = 1) (k0 : P.underlying f0.type = some .string) (k1 : P.underlying f1.type = some .string) (k2 : P.underlying f2.type = some .bool)
    (h : DataW.trod enc P w 0 (fun _ => true) true n t [v] = some x) : ∃ l, Chgs w v l := by
  rcases open_slice ht h with ⟨hcs, _⟩ | ⟨a, len, cap, m, k, D, Pl, hcs, _, hl, hm, hmm, _, hel⟩
  · simp only [List.cons.injEq, and_true] at hcs
    exact ⟨[], ⟨none, 0, hcs, fun h => absurd h (by simp), by simp, by unfold maxLen; omega, fun _ => rfl⟩, by simp⟩
  · simp only [List.cons.injEq, and_true] at hcs
    have hmc : m = cap := by simpa using hmm
    have each : ∀ i, i < len → ∃ y : CV, w.cell? (a.add (i * 3)) = some (.string y.key) ∧ w.cell? (a.add (i * 3 + 1)) = some (.string y.val) ∧ w.cell? (a.add (i * 3 + 2)) = some (.bool y.gone) ∧ WfC y := by
      intro i hi
      obtain ⟨cs', g1, g2⟩ := hel i (by omega)
      rw [ce] at g1
      obtain ⟨_, hlen, hcell⟩ := World.cells?_some g1
      obtain ⟨y, rfl, wy⟩ := open_change he hlen o0 o1 o2 c0 c1 c2 k0 k1 k2 g2
      have e0 := hcell 0 (by omega)
      have e1 := hcell 1 (by omega)
      have e2 := hcell 2 (by omega)
      rw [add_add] at e0 e1 e2
      exact ⟨y, by simpa using e0, by simpa using e1, by simpa using e2, wy⟩
    haveI : Inhabited CV := ⟨zeroCV⟩
    obtain ⟨f, hf⟩ := choose_lt each
    have hlen : ((List.range len).map f).length = len := by simp
    have hget : ∀ i, i < len → ((List.range len).map f).getD i zeroCV = f i := by intro i hi; simp [List.getD, hi]
    refine ⟨(List.range len).map f, ⟨⟨some a, cap, by rw [hlen]; exact hcs, fun hp => ?_, by rw [hlen]; exact hl, hm, by simp⟩, ?_⟩⟩
    · rw [hlen] at hp
      obtain ⟨b, o, s⟩ := a
      obtain rfl : s = none := by
        have := World.cell?_spot (hf 0 (by omega)).1
        simpa [Addr.add] using this
      refine ⟨b, o, rfl, fun i hi => ?_⟩
      rw [hlen] at hi
      obtain ⟨e0, e1, e2, _⟩ := hf i hi
      rw [hget i hi]
      rw [add_plain] at e0 e1 e2
      exact ⟨e0, e1, e2⟩
    · intro y hy
      simp only [List.mem_map, List.mem_range] at hy
      obtain ⟨i, hi, rfl⟩ := hy
      exact (hf i hi).2.2.2
end
theorem chg_open {w : World} {q : Option Addr} {n c : Nat} {l : List CV} (h : Chgs w (.slice q n c) l) : ChgIn w q n c l ∧ ∀ y ∈ l, (y.val.size : Int) ≤ 9223372036854775807 := by
  obtain ⟨q', c', e, h1, h2, h3, h4⟩ := h.lies
  simp only [Value.slice.injEq] at e
  obtain ⟨rfl, rfl, rfl⟩ := e
  refine ⟨⟨h1, rfl, h2, by unfold maxLen at h3; omega, fun y hy => ?_⟩, fun y hy => ?_⟩
  · have := (h.wf y hy).key
    unfold maxLen at this
    omega
  · have := (h.wf y hy).val
    unfold maxLen at this
    omega
end Go.Proofs.YtglcpfnpbcnejaaGreatDoor
namespace Go.Proofs.YtglcpfnpbcnejaaGreatDoor
open Go.RowKit Go.WideShapes Rm

theorem fmt_one {n : Nat} {D E : List Nat} (h1 : FmtIs n D) (h2 : FmtIs n E) : D = E := by
  unfold FmtIs at h1 h2
  rw [h1] at h2
  cases h2
  rfl
/-- A disk and a number, as both sides answer them. -/
structure FmtX (w : World) (E c : Int) (D : List Nat) (e : Ending) (w' : World) : Prop where
  ex : ∃ p k q m, e = .returned (.tuple #[.agg #[.int .i64 c, .slice p D.length k, .slice q 0 m], .int .i64 E]) ∧ DiskIn w' (.agg #[.int .i64 c, .slice p D.length k, .slice q 0 m]) c D [] ∧ Below w.heap.size w w'
theorem format_x (n : Int) : ∃ E c D, (∀ w, Laid w → Calls Tryz.prog 8 #[.int .i64 n] w fun e w' => FmtX w E c D e w') ∧ (∀ w, Calls Tryz.prog 21 #[.int .i64 n] w fun e w' => FmtX w E c D e w') := by
  by_cases h : n < 96 ∨ 4096 < n
  · refine ⟨20, 0, [], fun w hL => (Format_bad n w hL h).mono ?_, fun w => (rFormat_bad n w h).mono ?_⟩
    · rintro e w' ⟨rfl, hb⟩
      exact ⟨⟨none, 0, none, 0, rfl, zero_in w', hb⟩⟩
    · rintro e w' ⟨rfl, hb⟩
      exact ⟨⟨none, 0, none, 0, rfl, zero_in w', hb⟩⟩
  · obtain ⟨k, rfl⟩ := Int.eq_ofNat_of_zero_le (show 0 ≤ n by omega)
    obtain ⟨D, hD⟩ := fmt_ex (n := k) (by omega) (by omega)
    refine ⟨0, k, D, fun w hL => (Format_ok k w hL (by omega) (by omega)).mono ?_, fun w => (rFormat_ok k w (by omega) (by omega)).mono ?_⟩
    · rintro e w' ⟨v, D', rfl, hD', hF, hb⟩
      obtain rfl := fmt_one hD hD'
      have hI := hF.self
      obtain ⟨p, c, q, m, rfl, _⟩ := hI.parts
      exact ⟨⟨p, c, q, m, rfl, hI, hb⟩⟩
    · rintro e w' ⟨v, D', rfl, hD', hI, hb⟩
      obtain rfl := fmt_one hD hD'
      obtain ⟨p, c, q, m, rfl, _⟩ := hI.parts
      exact ⟨⟨p, c, q, m, rfl, hI, hb⟩⟩
/-- The directory that a Mount answers. -/
def dirR : Option (DirV × Int) → DirV
  | some (x, _) => x
  | none => ⟨0, []⟩
structure MtX (w : World) (x : DirV) (n : Int) (e : Ending) (w' : World) : Prop where
  ex : ∃ q z m, e = .returned (.tuple #[.agg #[.int .i64 x.gen, .slice q z m], .int .i64 n]) ∧ DirIn w' (.agg #[.int .i64 x.gen, .slice q z m]) x ∧ Below w.heap.size w w'
theorem mt_own {w : World} {base : Nat} {x : DirV} {ls : FPs} {lv : Value} (hm : May ltS x) (hl : ls.map Prod.fst = x.files) (h : FOwn w base lv ls) : ∃ q z m, lv = .slice q z m ∧ DirIn w (.agg #[.int .i64 x.gen, lv]) x := by
  obtain ⟨q, m, e, _⟩ := h.form
  exact ⟨q, _, m, e, ⟨⟨_, rfl, h.files hm hl⟩, by have := hm.lo; have := hm.hi; unfold wf64; omega⟩⟩
theorem zero_dir (w : World) : DirIn w (.agg #[.int .i64 0, .slice none 0 0]) ⟨0, []⟩ := ⟨⟨_, rfl, fnil2 w⟩, by unfold wf64; decide⟩
theorem mount_x (v : Value) (count : Int) (data : List Nat) (ws : Puts) (w : World) (hL : Laid w) (hd : DiskIn w v count data ws) (r : Option (DirV × Int)) (n : Int) (hm : MountIs count data ws r n) :
    Calls Tryz.prog 9 #[v] w fun e w' => MtX w (dirR r) n e w' := by
  refine (Mount_any v count data ws w hL hd r n hm).mono ?_
  rcases r with _ | ⟨x, at_⟩
  · rintro e w' ⟨rfl, hb⟩
    exact ⟨⟨none, 0, 0, rfl, zero_dir w', hb⟩⟩
  · rintro e w' ⟨ls, lv, rfl, hl, rfl, hf, hb⟩
    obtain ⟨q, z, m, rfl, hx⟩ := mt_own (mountIs_some hm).1 hl hf
    exact ⟨⟨q, z, m, rfl, hx, hb⟩⟩
theorem rmount_x (v : Value) (count : Int) (data : List Nat) (ws : Puts) (w : World) (hd : DiskIn w v count data ws) (r : Option (DirV × Int)) (n : Int) (hm : MountIs count data ws r n) :
    Calls Tryz.prog 22 #[v] w fun e w' => MtX w (dirR r) n e w' := by
  refine (rMount_any v count data ws w hd r n hm).mono ?_
  rcases r with _ | ⟨x, at_⟩
  · rintro e w' ⟨rfl, hb⟩
    exact ⟨⟨none, 0, 0, rfl, zero_dir w', hb⟩⟩
  · rintro e w' ⟨ls, lv, hl, rfl, hf, hb⟩
    obtain ⟨q, z, m, rfl, hx⟩ := mt_own (mountIs_some hm).1 hl hf
    exact ⟨⟨q, z, m, rfl, hx, hb⟩⟩
theorem turnIs_nil {count : Int} {data : List Nat} {ws : Puts} {r : Option (DirV × Int)} {n m : Int} {l : List CV} {A : Acts} (h : TurnIs count data ws r n l m A) (h0 : m ≠ 0) : A = [] := by
  cases h <;> first | rfl | exact absurd rfl h0
theorem turn_few {count : Int} {data : List Nat} {ws : Puts} {r : Option (DirV × Int)} {n m : Int} {l : List CV} {A : Acts} (hm : MountIs count data ws r n) (h : TurnIs count data ws r n l m A) : A.length ≤ 5000 := by
  by_cases h0 : m = 0
  · subst h0
    obtain ⟨x, y, a, o, fs, rfl, hok⟩ := turnIs_ok hm h
    have h1 := turn_len hok
    have := hok.ho.hi
    omega
  · rw [turnIs_nil h h0]; simp
theorem chg_nil {w : World} {q : Option Addr} {n c : Nat} {l : List CV} (h : Chgs w (.slice q n c) l) : q = none → c = 0 := by
  obtain ⟨q', c', e, h1, h2, h3, h4⟩ := h.lies
  simp only [Value.slice.injEq] at e
  obtain ⟨rfl, rfl, rfl⟩ := e
  exact h4
theorem cellsC_one (l : List CV) : ∀ u ∈ cellsC l, u.oneCell' = true := by
  intro u hu
  obtain ⟨x, _, hx⟩ := List.mem_flatMap.1 hu
  simp at hx
  rcases hx with rfl | rfl | rfl
  · rfl
  · rfl
  · rfl
theorem cs_cells {w : World} {b o : Nat} {l : List CV} (h : CsIn w (some ⟨b, o, none⟩) l) : ∀ j u, (cellsC l)[j]? = some u → w.cell? ((⟨b, o, none⟩ : Addr).add j) = some u := by
  intro j u hu
  have hj : j < l.length * 3 := by rw [← cellsC_len]; exact (List.getElem?_eq_some_iff.1 hu).1
  have hi : j / 3 < l.length := by omega
  obtain ⟨b', o', e, hc⟩ := h (by omega)
  simp at e
  obtain ⟨rfl, rfl⟩ := e
  obtain ⟨c0, c1, c2⟩ := cellsC_at l (j / 3) hi
  obtain ⟨d0, d1, d2⟩ := hc (j / 3) hi
  have h3 : j = j / 3 * 3 ∨ j = j / 3 * 3 + 1 ∨ j = j / 3 * 3 + 2 := by omega
  generalize j / 3 = i at *
  rcases h3 with rfl | rfl | rfl
  · rw [c0] at hu; rw [← Option.some.inj hu, ← d0]; congr 1; unfold Addr.add; split <;> simp_all
  · rw [c1] at hu; rw [← Option.some.inj hu, ← d1]; simp [Addr.add]
  · rw [c2] at hu; rw [← Option.some.inj hu, ← d2]; simp [Addr.add]
theorem run_append_changes (w : World) (ty : TypeId) (base : Nat) (v : Value) (ls ms : List CV) (q : Option Addr) (c : Nat) (hown : COwn w base v ls) (hin : CsIn w q ms) (hp : q = none → c = 0) (hlen : ls.length + ms.length ≤ 1000000) (hbase : base ≤ w.heap.size) :
    ∃ v' w', (Builtin.append_ #[43, 43] ty #[v, .slice q ms.length c]).run Tryz.prog w = .ok v' w' ∧ COwn w' base v' (ls ++ ms) ∧ w.grownBy w' v.ownBlock := by
  obtain ⟨i0, hi, hz0, hz1, hz2⟩ := info_parts' info_change
  cases q with
  | none =>
    obtain rfl : ms = [] := by
      cases ms with
      | nil => rfl
      | cons y ys => obtain ⟨b, o, e, _⟩ := hin (by simp); cases e
    obtain rfl := hp rfl
    exact ⟨v, w, run_append_owned_none (P := Tryz.prog) w base 43 ty 40 i0 3 Tryz.underlying43 hi v ls.length (cellsC ls) hown, by simpa using hown, ⟨rfl, rfl, rfl, Nat.le_refl _, fun _ _ _ => rfl⟩⟩
  | some ad =>
    have hc : ∀ j u, (cellsC ms)[j]? = some u → w.cell? (ad.add j) = some u := by
      intro j u hu
      have hpos : 0 < ms.length := by
        cases ms with
        | nil => simp [cellsC] at hu
        | cons y ys => simp
      obtain ⟨b, o, e, _⟩ := hin hpos
      simp at e
      subst e
      exact cs_cells hin j u hu
    obtain ⟨v', w', g1, g2, g3, _⟩ := run_append_own (P := Tryz.prog) w base 43 ty 40 i0 _ 3 40 Tryz.underlying43 hi hz0 hz1 hz2 rfl (by decide) v ls.length (cellsC ls) hown ad ms.length c (cellsC ms) (cellsC_len ms) hc (cellsC_one ms) (by unfold maxLen; omega) (by omega) hbase
    refine ⟨v', w', g1, ?_, g3⟩
    unfold COwn
    rw [cellsC_app, List.length_append]
    exact g2
theorem wpList_append_changes (w : World) {ops : Array Oper} {rest : List Oper} {o : Oper} {a : Act} {Q : Exit → Act → World → Prop} (hgd : o.guard = none) (s x : Operand)
    (ho : o.op = .call { callee := .builtin .append, args := #[s, x], argTypes := #[43, 43] }) (base : Nat) (v : Value) (ls ms : List CV) (q : Option Addr) (n c : Nat) (hs : a.eval s = v) (hx : a.eval x = .slice q n c) (hn : n = ms.length)
    (hown : COwn w base v ls) (hin : CsIn w q ms) (hp : q = none → c = 0) (hlen : ls.length + ms.length ≤ 1000000) (hbase : base ≤ w.heap.size)
    (h : ∀ v' w', COwn w' base v' (ls ++ ms) → w.grownBy w' v.ownBlock → wpList Tryz.prog ops Q rest (a.put o.dst v') w') : wpList Tryz.prog ops Q (o :: rest) a w := by
  subst hn
  refine wpList_plain hgd fun K hK => ?_
  obtain ⟨v', w', hr, g2, g3⟩ := run_append_changes w o.type base v ls ms q c hown hin hp hlen hbase
  unfold Oper.wp execOp
  simp only [ho, resolve, invoke, builtin, Sem.run_bind, Sem.run_pure, Result.andThen_ok, List.map_toArray, List.map_cons, List.map_nil, hs, hx, hr]
  exact hK _ _ (h v' w' g2 g3)
/-- A row of bytes of one's own, whatever they are. -/
def U8X (w : World) (base n : Nat) : Option Addr → Prop
  | none => n = 0
  | some a => ∃ g, a = ⟨g, 0, none⟩ ∧ base ≤ g ∧ ∃ cs, w.heap[g]? = some (.cells cs 5 (0, 0)) ∧ n ≤ cs.size ∧ ∀ i, i < n → ∃ x : Int, cs[i]? = some (.int .u8 x)
theorem u8x_own {w : World} {base : Nat} {q : Option Addr} {m : Nat} {xs : List Nat} (h : w.ownsRow base 5 1 (.slice q xs.length m) xs.length (Bs xs)) : U8X w base xs.length q := by
  rcases h.2 with ⟨hv, h0⟩ | ⟨g, cap, cur, hv, hb, hg, h1, _, h3, h4⟩
  · obtain ⟨rfl, _, _⟩ := Value.slice.inj hv
    exact h0
  · obtain ⟨rfl, _, rfl⟩ := Value.slice.inj hv
    refine ⟨g, rfl, hb, cur, hg, by omega, fun i hi => ⟨((xs.getD i 0 : Nat) : Int), ?_⟩⟩
    have h5 := congrArg (fun l : List Value => l[i]?) h4
    simp only [Nat.mul_one] at h5
    rw [List.getElem?_take_of_lt hi] at h5
    rw [← Array.getElem?_toList, h5]
    simp [Bs, List.getD_eq_getElem?_getD, List.getElem?_eq_getElem hi]
theorem U8X.set {w : World} {base n : Nat} {q : Option Addr} (h : U8X w base n q) (g o : Nat) (x : Int) : U8X (w.setCell ⟨g, o, none⟩ (.int .u8 x)) base n q := by
  rcases q with _ | a
  · exact h
  · obtain ⟨g', rfl, hb, cs, h1, h2, h3⟩ := h
    by_cases hg : g' = g
    · subst hg
      refine ⟨g', rfl, hb, _, heap_setCell_same w g' o _ _ _ h1, by simpa using h2, fun i hi => ?_⟩
      by_cases ho : o = i
      · subst ho
        have ho2 : o < cs.size := by omega
        exact ⟨x, by simp [ho2]⟩
      · rw [Array.getElem?_setIfInBounds_ne ho]
        exact h3 i hi
    · exact ⟨g', rfl, hb, cs, (set_keep hg).trans h1, h2, h3⟩
/-- A row of acts whose bytes may be written over. -/
structure AW (w : World) (base : Nat) (q : Option Addr) (n m : Nat) (L : List ActF) : Prop where
  row : w.ownsRow base 47 3 (.slice q n m) L.length (cellsT L)
  data : ∀ y ∈ L, ∃ dq dn dm, y.2 = .slice dq dn dm ∧ U8X w base dn dq ∧ (dn : Int) ≤ 9223372036854775807
theorem aw_own {w : World} {base n m : Nat} {q : Option Addr} {L : List ActF} (h : AOwn w base (.slice q n m) L) : AW w base q n m L := by
  refine ⟨h.row, fun y hy => ?_⟩
  have hd := (h.data y hy).own
  obtain ⟨dq, dm, e, h1, h2, _⟩ := own_form hd
  rw [e] at hd
  unfold maxLen at h2
  exact ⟨dq, _, dm, e, u8x_own hd, by omega⟩
theorem AW.set {w : World} {base n m : Nat} {q : Option Addr} {L : List ActF} (h : AW w base q n m L) (g o : Nat) (x : Int) {cs : Array Value} (hg : w.heap[g]? = some (.cells cs 5 (0, 0))) : AW (w.setCell ⟨g, o, none⟩ (.int .u8 x)) base q n m L := by
  refine ⟨own_keepT (T := fun t => t ≠ 5) h.row (by decide) ⟨fun k cs' t ht hk => ?_⟩, fun y hy => ?_⟩
  · refine (set_keep ?_).trans hk
    rintro rfl
    rw [hg] at hk
    cases hk
    exact ht rfl
  · obtain ⟨dq, dn, dm, e, h1, h2⟩ := h.data y hy
    exact ⟨dq, dn, dm, e, h1.set g o x, h2⟩
theorem AW.at {w : World} {base n m : Nat} {q : Option Addr} {L : List ActF} (h : AW w base q n m L) {k : Nat} (hk : k < L.length) : ∃ g dq dn dm cur, q = some ⟨g, 0, none⟩ ∧ w.heap[g]? = some (.cells cur 47 (0, 0)) ∧ cur[k * 3 + 2]? = some (.slice dq dn dm) ∧ U8X w base dn dq ∧ (dn : Int) ≤ 9223372036854775807 := by
  rcases h.row.2 with ⟨_, h0⟩ | ⟨g, cap, cur, hv, hb, hg, hle, hmax, hsz, htk⟩
  · omega
  · simp only [Value.slice.injEq] at hv
    obtain ⟨rfl, _, _⟩ := hv
    obtain ⟨c0, c1, y, hy, _, c2⟩ := cellsT_at L k hk
    obtain ⟨dq, dn, dm, e, h1, h2⟩ := h.data y hy
    refine ⟨g, dq, dn, dm, cur, rfl, hg, ?_, h1, h2⟩
    rw [← e, ← c2, ← htk, List.getElem?_take_of_lt (by omega)]
    simp
end Go.Proofs.YtglcpfnpbcnejaaGreatDoor
