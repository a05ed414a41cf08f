/-
  Writes that wait, in memory of the call's own, their bytes however long; and the contract of the document's own answer Twin.
-/
import Derived.Test.YtkgmhmhphgaclabGreatDoorJ35
import Derived.Test.YtkgmhmhphgaclabGreatDoorJ26
import Derived.Test.YtkgmhmhphgaclabGreatDoorJ22
import Derived.Laws.AppendOwnNone
namespace Go.Proofs.YtkgmhmhphgaclabGreatDoor
open Go.RowKit Go.WideShapes Rm

/-- What the law's loop keeps: what the named file has. -/
def goneL (l : List FileV) (name : ByteArray) : Int := l.foldl (fun g f => if f.name = name then needsN f.size else g) (-1)
theorem goneL_snoc {l : List FileV} {k : Nat} (h : k < l.length) (name : ByteArray) : goneL (l.take (k + 1)) name = if (l.getD k zeroF).name = name then needsN (l.getD k zeroF).size else goneL (l.take k) name := by
  rw [take_snoc (d := zeroF) h]
  unfold goneL
  rw [List.foldl_append]
  rfl
theorem gone_from (name : ByteArray) : ∀ (l : List FileV) (g : Int), ((∀ f ∈ l, f.name ≠ name) ∧ l.foldl (fun g f => if f.name = name then needsN f.size else g) g = g) ∨ ∃ f ∈ l, f.name = name ∧ l.foldl (fun g f => if f.name = name then needsN f.size else g) g = needsN f.size
  | [], g => .inl ⟨by simp, rfl⟩
  | a :: l, g => by
    rw [List.foldl_cons]
    rcases gone_from name l (if a.name = name then needsN a.size else g) with ⟨h1, h2⟩ | ⟨f, h1, h2, h3⟩
    · rw [h2]
      by_cases h : a.name = name
      · exact .inr ⟨a, by simp, h, by rw [if_pos h]⟩
      · exact .inl ⟨fun f hf => by
          rcases List.mem_cons.1 hf with rfl | hf
          · exact h
          · exact h1 f hf, by rw [if_neg h]⟩
    · exact .inr ⟨f, by simp [h1], h2, h3⟩
theorem goneL_or (l : List FileV) (name : ByteArray) : ((∀ f ∈ l, f.name ≠ name) ∧ goneL l name = -1) ∨ ∃ f ∈ l, f.name = name ∧ goneL l name = needsN f.size := gone_from name l (-1)
theorem turn_named {count : Int} {data : List Nat} {ws : Puts} {x : DirV} {at_ n : Int} {name val : ByteArray} {A : Acts} (h : TurnIs count data ws (some (x, at_)) n [⟨name, val, true⟩] 0 A) : ∃ f ∈ x.files, f.name = name := by
  have key : ∀ y : DirV, chgE y.files [⟨name, val, true⟩] = 0 → ∃ f ∈ y.files, f.name = name := by
    intro y hE
    unfold chgE at hE
    rw [if_neg (by simp)] at hE
    have h1 : oneC y.files [⟨name, val, true⟩] 0 = 0 := by
      by_cases h0 : oneC y.files [⟨name, val, true⟩] 0 = 0
      · exact h0
      · exact absurd (fromC_err (e := oneC y.files [⟨name, val, true⟩] 0) hE rfl h0).symm h0
    unfold oneC at h1
    split at h1
    · cases h1
    · split at h1
      · cases h1
      · split at h1
        · cases h1
        · rename_i h2
          simp only [List.getD_cons_zero, true_and] at h2
          by_cases hx : ∃ f ∈ y.files, f.name = name
          · exact hx
          · have hmiss := (findI_miss (l := y.files) (name := name) (fun j hj e => hx ⟨_, by rw [getD_eq hj]; exact List.getElem_mem hj, e⟩)).2
            rw [hmiss] at h2
            exact absurd (by decide) h2
  generalize hz : (0 : Int) = z at h
  cases h with
  | none h => cases h
  | chg x at_ E h hE h0 => exact absurd hz.symm h0
  | many x at_ h hE hm' => cases hz
  | place x at_ E h hE hm' hp => exact absurd hz.symm (place_ne hp)
  | last x o P h ho hE hm' hp hG => cases hz
  | bad x o P ss G m b h ho hE hm' hp hG hG2 hpm hup hw hm0 => exact absurd hz.symm hm0
  | ok x o P ss G b F h ho hE hm' hp hG hG2 hpm hup hw =>
    simp only [Option.some.injEq, Prod.mk.injEq] at h
    obtain ⟨rfl, _⟩ := h
    exact key _ hE
theorem turn_room {count : Int} {data : List Nat} {ws : Puts} {x : DirV} {at_ n : Int} {name val : ByteArray} {A : Acts} (hm : MountIs count data ws (some (x, at_)) n) (h : TurnIs count data ws (some (x, at_)) n [⟨name, val, true⟩] 0 A) (hv : numsOf val = []) (hw : ws.length ≤ 4000) {f : FileV} (hf : f ∈ x.files) (hn : f.name = name) :
    ∃ D y s, doAny count data ws A = .ok (D, []) ∧ MountIs count D [] (some (y, s)) 0 ∧ takenN y.files = takenN x.files - needsN f.size := by
  obtain ⟨x', y, a, o, fs, hr, hok⟩ := turnIs_ok hm h
  simp only [Option.some.injEq, Prod.mk.injEq] at hr
  obtain ⟨rfl, rfl⟩ := hr
  have hp : puttingN ([(⟨name, val, true⟩ : CV)].map toV) = [] := rfl
  have hfs : fs = [] := by
    have := hok.hpl
    rw [hp] at this
    simp only [placeN, Except.ok.injEq] at this
    exact this.symm
  have hAl : A.length = 9 := by
    rw [hok.hA, hp, hfs]
    simp [filesA, turnA, slotA]
  obtain ⟨D, e1, _, e3, _⟩ := turn_result hok (by omega)
  refine ⟨D, y, _, by rw [doAny_ok _ hok.ho]; exact e1, e3, ?_⟩
  have hmem := hok.hmem
  rw [hfs] at hmem
  have ht : [(⟨name, val, true⟩ : CV)].map toV = [⟨f.name, [], true⟩] := by
    rw [hn]
    simp [toV, hv]
  rw [ht] at hmem
  exact room_less (lt := ltB) ltB_irr ltB_tr (rises_pair ltB_tr hok.hsx.1.1.rise) (rises_pair ltB_tr hok.hy.1.rise) hf hmem
end Go.Proofs.YtkgmhmhphgaclabGreatDoor
namespace Go.Proofs.YtkgmhmhphgaclabGreatDoor
open Go.RowKit Go.WideShapes Rm

theorem mountD (a b : Addr) (ev old : Value) (n : Int) (u : FrameMode) (w : World) (hg : ErrT w) (hv : ErrV ev n) (ha : w.cell? a = some ev) (hb : w.cell? b = some old) (hf : w.frozen? b = false) :
    CallsD Tryz.prog 33 #[.pointer (some a), .pointer (some b)] u w fun e u' w' => u' = u ∧ e = .returned (.tuple #[]) ∧ ∃ w1, w' = w1.setCell b (.int .i64 n) ∧ Below w.heap.size w w1 := by
  have hn := number_v ev n hv w hg
  have hlt := World.block_lt_of_cell? _ _ hb
  go_enter_d Tryz.func33, Tryz.ntmps33
  go_wp2_with fail
  refine hn.mono ?_
  rintro e w1 ⟨rfl, hb1⟩
  have hb2 : w1.cell? b = some old := (hb1.cell hlt).trans hb
  have hf2 : w1.frozen? b = false := (hb1.frozen hlt).trans hf
  go_wp2
  go_end0
  exact ⟨rfl, w1, rfl, hb1⟩
/-- What Mount answers. -/
def MountQ (w : World) (r : Option (DirV × Int)) (n : Int) (e : Ending) (w' : World) : Prop :=
  match r with
  | some (x, _) => ∃ ls lv, n = 0 ∧ ls.map Prod.fst = x.files ∧ e = .returned (.tuple #[.agg #[.int .i64 x.gen, lv], .int .i64 0]) ∧ FOwn w' w.heap.size lv ls ∧ Below w.heap.size w w'
  | none => e = .returned (.tuple #[.agg #[.int .i64 0, .slice none 0 0], .int .i64 n]) ∧ Below w.heap.size w w'
theorem mountQ_some {w w' : World} {r : Option (DirV × Int)} {n at_ : Int} {e : Ending} {x : DirV} {ls : FPs} {lv : Value} (hr : r = some (x, at_)) (hn : r ≠ none → n = 0) (hl : ls.map Prod.fst = x.files) (he : e = .returned (.tuple #[.agg #[.int .i64 x.gen, lv], .int .i64 0])) (hf : FOwn w' w.heap.size lv ls) (hb : Below w.heap.size w w') : MountQ w r n e w' := by
  have h0 := hn (by rw [hr]; simp)
  subst hr
  exact ⟨ls, lv, h0, hl, he, hf, hb⟩
theorem mountQ_none {w w' : World} {r : Option (DirV × Int)} {n : Int} {e : Ending} (hr : r = none) (he : e = .returned (.tuple #[.agg #[.int .i64 0, .slice none 0 0], .int .i64 n])) (hb : Below w.heap.size w w') : MountQ w r n e w' := by
  subst hr
  exact ⟨he, hb⟩
theorem mountP_bel {w w' : World} {r : Option (DirV × Int)} {n : Int} {e : Ending} (h : MountP w r n e w') : Below w.heap.size w w' := by
  rcases r with _ | ⟨x, at_⟩
  · obtain ⟨_, _, _, h⟩ := h
    exact h
  · obtain ⟨_, _, _, _, _, h⟩ := h
    exact h
theorem mountP_or {w w' : World} {r : Option (DirV × Int)} {n : Int} {e : Ending} (h : MountP w r n e w') : (∃ x at_ ls lv, r = some (x, at_) ∧ ls.map Prod.fst = x.files ∧ e = .returned (.tuple #[.agg #[.int .i64 x.gen, lv], .int .i64 at_, .nilIface]) ∧ FOwn w' w.heap.size lv ls) ∨ (∃ ev, r = none ∧ e = .returned (.tuple #[.agg #[.int .i64 0, .slice none 0 0], .int .i64 0, ev]) ∧ Faults ev n) := by
  rcases r with _ | ⟨x, at_⟩
  · obtain ⟨ev, h1, h2, _⟩ := h
    exact .inr ⟨ev, rfl, h1, h2⟩
  · obtain ⟨ls, lv, h1, h2, h3, _⟩ := h
    exact .inl ⟨x, at_, ls, lv, rfl, h1, h2, h3⟩
set_option maxRecDepth 8000 in
set_option maxHeartbeats 4000000 in
theorem Mount_any (v : Value) (count : Int) (data : List Nat) (ws : Puts) (w : World) (hL : Laid w) (hd : DiskIn w v count data ws) (r : Option (DirV × Int)) (n : Int) (hm : MountIs count data ws r n) :
    Calls Tryz.prog 14 #[v] w fun e w' => MountQ w r n e w' := by
  obtain ⟨p, c, q, m, rfl, _⟩ := hd.parts
  obtain ⟨dl, hdl⟩ : ∃ k, data.length = k := ⟨_, rfl⟩
  obtain ⟨wl, hwl⟩ : ∃ k, ws.length = k := ⟨_, rfl⟩
  rw [hdl, hwl] at hd ⊢
  obtain ⟨w0, hw0⟩ : ∃ w0, w.alloc (.cells #[.int .i64 count, .slice p dl c, .slice q wl m] 25) = w0 := ⟨_, rfl⟩
  have HB0 : Hid (Below w.heap.size w w0) := by show Below _ _ _; rw [← hw0]; exact below_alloc _ _
  have HX0 : Hid (w0.heap[w.heap.size]? = some (.cells #[.int .i64 count, .slice p dl c, .slice q wl m] 25 (0, 0))) := by show _ = _; rw [← hw0]; exact heap_alloc_new _ _
  have hb3 : Below w0.heap.size w0 (((w0.alloc (.cells #[.int .i64 0, .slice none 0 0] 43)).alloc (.cells #[.int .i64 0] 31)).alloc (.cells #[.nilIface] 63)) := ((below_alloc w0 _).alloc (by simp) _).alloc (by simp; omega) _
  have hrd := mount_any _ count data ws (((w0.alloc (.cells #[.int .i64 0, .slice none 0 0] 43)).alloc (.cells #[.int .i64 0] 31)).alloc (.cells #[.nilIface] 63)) (hL.below (below_bt HB0.out hb3)) (hd.below (below_bt HB0.out hb3)) r n hm
  have HG : Hid (ErrT w0) := (hL.below HB0.out).err
  have HNZ : Hid (r = none → n ≠ 0) := fun h => by subst h; rcases mountIs_none hm with h | h <;> omega
  have HN0 : Hid (r ≠ none → n = 0) := fun h => by
    rcases r with _ | ⟨x, s⟩
    · exact absurd rfl h
    · exact (mountIs_some hm).2.2.1
  obtain ⟨dc0, dc1, dc2⟩ := three_cells ((hb3.block _ (lt_heap HX0.out)).trans HX0.out)
  have hmf : ∀ (fn : Fn) (first cap : Array Value) (w : World), (Instr.makeFunc fn first cap).run Tryz.prog w = .ok (.func fn first cap) w := fun _ _ _ _ => rfl
  clear hL hd hm hdl hwl
  go_enter_defers Tryz.func14, Tryz.ntmps14
  go_upto_region 1 with fail
  (try rw [hw0])
  clear hw0
  go_wp2_with fail
  refine hrd.mono ?_
  rintro e w1 hpost
  clear dc0 dc1 dc2
  have hbb : Below (((w0.alloc (.cells #[.int .i64 0, .slice none 0 0] 43)).alloc (.cells #[.int .i64 0] 31)).alloc (.cells #[.nilIface] 63)).heap.size (((w0.alloc (.cells #[.int .i64 0, .slice none 0 0] 43)).alloc (.cells #[.int .i64 0] 31)).alloc (.cells #[.nilIface] 63)) w1 := by
    exact mountP_bel hpost
  have hs1 := hbb.size
  simp at hs1
  obtain ⟨cE, cA, fE, fA⟩ := vars2 (a := .int .i64 0) (b := .nilIface) (s := 31) (t := 63) (w0.alloc (.cells #[.int .i64 0, .slice none 0 0] 43)) w1 hbb
  simp only [heap_size_alloc] at cE cA fE fA
  have hbx : Below (w0.heap.size + 1) (w0.alloc (.cells #[.int .i64 0, .slice none 0 0] 43)) w1 := (((Below.refl _ _).alloc (by simp) _).alloc (by simp) _).trans (hbb.mono (by simp))
  obtain ⟨c0, c1⟩ := box2 hbx
  obtain ⟨f0, f1⟩ := box2f hbx
  have HB : Hid (Below w0.heap.size w0 w1) := box_below hbx
  clear hbb hbx hrd hb3
  have hpost2 := mountP_or hpost
  clear hpost
  rcases hpost2 with ⟨x, at_, ls, lv, hd, hls, rfl, hfo⟩ | ⟨ev, hno, rfl, hfl⟩
  · have HDI : Hid (r = some (x, at_)) := hd
    have HLS : Hid (ls.map Prod.fst = x.files) := hls
    have hfo' : FOwn w1 (w0.heap.size + 1 + 1 + 1) lv ls := by simpa using hfo
    have HFO : Hid (FOwn w1 (w0.heap.size + 1 + 1 + 1) lv ls) := hfo'
    obtain ⟨ql, ml, rfl, _⟩ := hfo.form
    have HEV : Hid (ErrV .nilIface 0) := .inl ⟨rfl, rfl⟩
    clear hd hls hfo hfo'
    go_wp2
    have g1 := rdA (g := .int .i64 x.gen) (lv := .slice ql ls.length ml) (ev := .nilIface) (D := w0.heap.size) (E := w0.heap.size + 1) (A := w0.heap.size + 1 + 1) (by omega) (by omega) cA
    have g2 := rdE (g := .int .i64 x.gen) (lv := .slice ql ls.length ml) (ev := .nilIface) (D := w0.heap.size) (E := w0.heap.size + 1) (A := w0.heap.size + 1 + 1) (by omega) (by omega) cE
    have g3 := rdF (g := .int .i64 x.gen) (lv := .slice ql ls.length ml) (ev := .nilIface) (D := w0.heap.size) (E := w0.heap.size + 1) (A := w0.heap.size + 1 + 1) fE
    have g4 := rd0 (g := .int .i64 x.gen) (lv := .slice ql ls.length ml) (ev := .nilIface) (D := w0.heap.size) (E := w0.heap.size + 1) (A := w0.heap.size + 1 + 1) (by omega) (by omega) c0
    have g5 := rd1 (g := .int .i64 x.gen) (lv := .slice ql ls.length ml) (ev := .nilIface) (D := w0.heap.size) (E := w0.heap.size + 1) (A := w0.heap.size + 1 + 1) (by omega) (by omega) c1
    have g6 := fun k h1 h2 h3 => rdH (w1 := w1) (g := .int .i64 x.gen) (lv := .slice ql ls.length ml) (ev := .nilIface) (D := w0.heap.size) (E := w0.heap.size + 1) (A := w0.heap.size + 1 + 1) (k := k) h1 h2 h3
    have g7 := rdS (w1 := w1) (g := .int .i64 x.gen) (lv := .slice ql ls.length ml) (ev := .nilIface) (D := w0.heap.size) (E := w0.heap.size + 1) (A := w0.heap.size + 1 + 1)
    have hbW := rdB (g := .int .i64 x.gen) (lv := .slice ql ls.length ml) (ev := .nilIface) (D := w0.heap.size) (E := w0.heap.size + 1) (A := w0.heap.size + 1 + 1) HB.out (by omega) (by omega) (by omega)
    generalize (((((w1.setCell ⟨w0.heap.size, 0, none⟩ (.int .i64 x.gen)).setCell ⟨w0.heap.size, 1, none⟩ (.slice ql ls.length ml)).setCell ⟨w0.heap.size + 1 + 1, 0, none⟩ (.nilIface)).setCell ⟨w0.heap.size, 0, none⟩ (.int .i64 x.gen)).setCell ⟨w0.heap.size, 1, none⟩ (.slice ql ls.length ml)).setCell ⟨w0.heap.size + 1, 0, none⟩ (.int .i64 0) = W at *
    refine leaves_cons (f := 33) (args := #[.pointer (some ⟨w0.heap.size + 1 + 1, 0, none⟩), .pointer (some ⟨w0.heap.size + 1, 0, none⟩)]) (by simp) (by simp [go_sem]) ?_
    refine (mountD ⟨w0.heap.size + 1 + 1, 0, none⟩ ⟨w0.heap.size + 1, 0, none⟩ (.nilIface) (.int .i64 0) 0 .returning _ (HG.out.below hbW) HEV.out g1 g2 g3).mono ?_
    rintro e u' w'' ⟨rfl, rfl, w3, rfl, hb3⟩
    have hlE := World.block_lt_of_cell? _ _ g2
    have hlD := World.block_lt_of_cell? _ _ g4
    have k1 : (w3.setCell ⟨w0.heap.size + 1, 0, none⟩ (.int .i64 0)).cell? ⟨w0.heap.size + 1, 0, none⟩ = some (.int .i64 0) := World.cell?_setCell_same _ _ _ ((hb3.cell hlE).trans g2)
    have k4 : (w3.setCell ⟨w0.heap.size + 1, 0, none⟩ (.int .i64 0)).cell? ⟨w0.heap.size, 0, none⟩ = some (.int .i64 x.gen) := by rw [World.cell?_setCell_other _ _ _ _ (by simp)]; exact (hb3.cell hlD).trans g4
    have k5 : (w3.setCell ⟨w0.heap.size + 1, 0, none⟩ (.int .i64 0)).cell? ⟨w0.heap.size, 1, none⟩ = some (.slice ql ls.length ml) := by rw [World.cell?_setCell_other _ _ _ _ (by simp)]; exact (hb3.cell (World.block_lt_of_cell? _ _ g5)).trans g5
    have k2 : Below w0.heap.size w0 (w3.setCell ⟨w0.heap.size + 1, 0, none⟩ (.int .i64 0)) := (hbW.trans (hb3.mono hbW.size)).setCell (by simp) _
    have k6 : ∀ k, w0.heap.size + 1 + 1 + 1 ≤ k → k < w1.heap.size → (w3.setCell ⟨w0.heap.size + 1, 0, none⟩ (.int .i64 0)).heap[k]? = w1.heap[k]? := fun k hk hk2 => by
      rw [Below.heap_setCell _ _ _ _ (by simp; omega), hb3.block k (by omega), g6 k (by omega) (by omega) (by omega)]
    generalize w3.setCell ⟨w0.heap.size + 1, 0, none⟩ (.int .i64 0) = w4 at *
    simp [Leaves, settle, results_cells Tryz.results14, go_sem, k1, k4, k5]
    exact mountQ_some HDI.out HN0.out HLS.out rfl ((HFO.out.keepB k6).mono (by have := HB0.out.size; omega)) (below_bt HB0.out k2)
  · have HN : Hid (r = none) := hno
    have HEV : Hid (ErrV ev n) := .inr ⟨HNZ.out hno, hfl⟩
    obtain ⟨tx, vx, rfl⟩ := hfl.iface
    clear hno hfl
    go_wp2
    have g1 := rdA (g := .int .i64 0) (lv := .slice none 0 0) (ev := .iface tx vx) (D := w0.heap.size) (E := w0.heap.size + 1) (A := w0.heap.size + 1 + 1) (by omega) (by omega) cA
    have g2 := rdE (g := .int .i64 0) (lv := .slice none 0 0) (ev := .iface tx vx) (D := w0.heap.size) (E := w0.heap.size + 1) (A := w0.heap.size + 1 + 1) (by omega) (by omega) cE
    have g3 := rdF (g := .int .i64 0) (lv := .slice none 0 0) (ev := .iface tx vx) (D := w0.heap.size) (E := w0.heap.size + 1) (A := w0.heap.size + 1 + 1) fE
    have g4 := rd0 (g := .int .i64 0) (lv := .slice none 0 0) (ev := .iface tx vx) (D := w0.heap.size) (E := w0.heap.size + 1) (A := w0.heap.size + 1 + 1) (by omega) (by omega) c0
    have g5 := rd1 (g := .int .i64 0) (lv := .slice none 0 0) (ev := .iface tx vx) (D := w0.heap.size) (E := w0.heap.size + 1) (A := w0.heap.size + 1 + 1) (by omega) (by omega) c1
    have g6 := fun k h1 h2 h3 => rdH (w1 := w1) (g := .int .i64 0) (lv := .slice none 0 0) (ev := .iface tx vx) (D := w0.heap.size) (E := w0.heap.size + 1) (A := w0.heap.size + 1 + 1) (k := k) h1 h2 h3
    have g7 := rdS (w1 := w1) (g := .int .i64 0) (lv := .slice none 0 0) (ev := .iface tx vx) (D := w0.heap.size) (E := w0.heap.size + 1) (A := w0.heap.size + 1 + 1)
    have hbW := rdB (g := .int .i64 0) (lv := .slice none 0 0) (ev := .iface tx vx) (D := w0.heap.size) (E := w0.heap.size + 1) (A := w0.heap.size + 1 + 1) HB.out (by omega) (by omega) (by omega)
    generalize (((((w1.setCell ⟨w0.heap.size, 0, none⟩ (.int .i64 0)).setCell ⟨w0.heap.size, 1, none⟩ (.slice none 0 0)).setCell ⟨w0.heap.size + 1 + 1, 0, none⟩ (.iface tx vx)).setCell ⟨w0.heap.size, 0, none⟩ (.int .i64 0)).setCell ⟨w0.heap.size, 1, none⟩ (.slice none 0 0)).setCell ⟨w0.heap.size + 1, 0, none⟩ (.int .i64 0) = W at *
    refine leaves_cons (f := 33) (args := #[.pointer (some ⟨w0.heap.size + 1 + 1, 0, none⟩), .pointer (some ⟨w0.heap.size + 1, 0, none⟩)]) (by simp) (by simp [go_sem]) ?_
    refine (mountD ⟨w0.heap.size + 1 + 1, 0, none⟩ ⟨w0.heap.size + 1, 0, none⟩ (.iface tx vx) (.int .i64 0) n .returning _ (HG.out.below hbW) HEV.out g1 g2 g3).mono ?_
    rintro e u' w'' ⟨rfl, rfl, w3, rfl, hb3⟩
    have hlE := World.block_lt_of_cell? _ _ g2
    have hlD := World.block_lt_of_cell? _ _ g4
    have k1 : (w3.setCell ⟨w0.heap.size + 1, 0, none⟩ (.int .i64 n)).cell? ⟨w0.heap.size + 1, 0, none⟩ = some (.int .i64 n) := World.cell?_setCell_same _ _ _ ((hb3.cell hlE).trans g2)
    have k4 : (w3.setCell ⟨w0.heap.size + 1, 0, none⟩ (.int .i64 n)).cell? ⟨w0.heap.size, 0, none⟩ = some (.int .i64 0) := by rw [World.cell?_setCell_other _ _ _ _ (by simp)]; exact (hb3.cell hlD).trans g4
    have k5 : (w3.setCell ⟨w0.heap.size + 1, 0, none⟩ (.int .i64 n)).cell? ⟨w0.heap.size, 1, none⟩ = some (.slice none 0 0) := by rw [World.cell?_setCell_other _ _ _ _ (by simp)]; exact (hb3.cell (World.block_lt_of_cell? _ _ g5)).trans g5
    have k2 : Below w0.heap.size w0 (w3.setCell ⟨w0.heap.size + 1, 0, none⟩ (.int .i64 n)) := (hbW.trans (hb3.mono hbW.size)).setCell (by simp) _
    have k6 : ∀ k, w0.heap.size + 1 + 1 + 1 ≤ k → k < w1.heap.size → (w3.setCell ⟨w0.heap.size + 1, 0, none⟩ (.int .i64 n)).heap[k]? = w1.heap[k]? := fun k hk hk2 => by
      rw [Below.heap_setCell _ _ _ _ (by simp; omega), hb3.block k (by omega), g6 k (by omega) (by omega) (by omega)]
    generalize w3.setCell ⟨w0.heap.size + 1, 0, none⟩ (.int .i64 n) = w4 at *
    simp [Leaves, settle, results_cells Tryz.results14, go_sem, k1, k4, k5]
    exact mountQ_none HN.out rfl (below_bt HB0.out k2)
end Go.Proofs.YtkgmhmhphgaclabGreatDoor
namespace Go.Proofs.YtkgmhmhphgaclabGreatDoor
set_option maxRecDepth 8000
open Go.RowKit Go.WideShapes

/-- A row of bytes of the call's own: nil, or a row with room perhaps. -/
structure RowG (w : World) (base : Nat) (v : Value) (xs : List Nat) : Prop where
  own : w.ownsRow base 5 1 v xs.length (Bs xs)
  bytes : ∀ c ∈ xs, c < 256
theorem RowG.form {w : World} {base : Nat} {v : Value} {xs : List Nat} (h : RowG w base v xs) : ∃ p c, v = .slice p xs.length c ∧ BIn w p xs ∧ xs.length ≤ c ∧ c ≤ maxLen ∧ (p = none → c = 0) := by
  rcases h.own.2 with ⟨hv, hn⟩ | ⟨g, cap, cur, hv, hb, hg, hle, hmax, hsz, htk⟩
  · exact ⟨none, 0, by rw [hv, hn], ⟨fun h => by omega, h.bytes⟩, by omega, by unfold maxLen; omega, fun _ => rfl⟩
  · subst hv
    refine ⟨_, cap, rfl, ⟨fun _ => ⟨g, 0, rfl, fun i hi => ?_⟩, h.bytes⟩, hle, hmax, fun h => by cases h⟩
    rw [Nat.zero_add, h.own.cellAt i (by omega)]
    simp [Bs, List.getD, List.getElem?_eq_getElem hi]
theorem RowG.row {w : World} {base : Nat} {v : Value} {xs : List Nat} (h : RowG w base v xs) : Row w v xs := by
  obtain ⟨p, c, h1, h2, h3, h4, h5⟩ := h.form
  exact ⟨p, c, h1, h2, h3, h4, h5⟩
theorem RowG.keepB {w w' : World} {base : Nat} {v : Value} {xs : List Nat} (h : RowG w base v xs) (hk : ∀ k cur, base ≤ k → w.heap[k]? = some (.cells cur 5 (0, 0)) → w'.heap[k]? = w.heap[k]?) : RowG w' base v xs := by
  refine ⟨⟨h.own.1, ?_⟩, h.bytes⟩
  rcases h.own.2 with h' | ⟨g, cap, cur, h1, h2, h3, h4⟩
  · exact .inl h'
  · exact .inr ⟨g, cap, cur, h1, h2, (hk g cur h2 h3).trans h3, h4⟩
theorem RowG.below {w w' : World} {base : Nat} {v : Value} {xs : List Nat} (h : RowG w base v xs) (hb : Below w.heap.size w w') : RowG w' base v xs := h.keepB fun k _ _ e => hb.block k (lt_heap e)
theorem RowG.mono {w : World} {base base' : Nat} {v : Value} {xs : List Nat} (h : RowG w base v xs) (hb : base' ≤ base) : RowG w base' v xs := by
  refine ⟨⟨h.own.1, ?_⟩, h.bytes⟩
  rcases h.own.2 with h' | ⟨g, cap, cur, h1, h2, h3⟩
  · exact .inl h'
  · exact .inr ⟨g, cap, cur, h1, Nat.le_trans hb h2, h3⟩

theorem wpList_append_row (w : World) {ops : Array Oper} {rest : List Oper} {o : Oper} {a : Act} {Q : Exit → Act → World → Prop} (hgd : o.guard = none) (s x : Operand)
    (ho : o.op = .call { callee := .builtin .append, args := #[s, x], argTypes := #[22, 22] }) (base : Nat) (v : Value) (xs ys : List Nat) (p : Option Addr) (m c : Nat) (hs : a.eval s = v) (hx : a.eval x = .slice p m c) (hm : m = ys.length)
    (hown : w.ownsRow base 5 1 v xs.length (Bs xs)) (hin : BIn w p ys) (hp : p = none → c = 0) (hlen : xs.length + ys.length ≤ 140737488355328) (hbase : base ≤ w.heap.size)
    (h : ∀ v' w', w'.ownsRow base 5 1 v' (xs ++ ys).length (Bs (xs ++ ys)) → w.grownBy w' v.ownBlock → wpList Tryz.prog ops Q rest (a.put o.dst v') w') : wpList Tryz.prog ops Q (o :: rest) a w := by
  subst hm
  refine wpList_plain hgd fun K hK => ?_
  obtain ⟨i0, hi, hz0, hz1, hz2⟩ := info_parts info_u8
  obtain ⟨v', w', hr, h2, h3⟩ := run_append_row (P := Tryz.prog) (tb := 22) (eb := 5) Tryz.underlying22 hi hz0 hz1 hz2 base o.type v xs ys p c hown hin hp hlen hbase
  unfold Oper.wp execOp
  simp only [ho, resolve, invoke, builtin, Sem.run_bind, Sem.run_pure, Result.andThen_ok, List.map_toArray, List.map_cons, List.map_nil, hs, hx, hr]
  exact hK _ _ (h v' w' h2 h3)
end Go.Proofs.YtkgmhmhphgaclabGreatDoor
namespace Go.Proofs.YtkgmhmhphgaclabGreatDoor
set_option maxRecDepth 8000
open Go.RowKit Go.WideShapes
attribute [local go_sem ↓] Go.wp_at_zero Go.wp_at_succ

/-- The cells of writes, their bytes as the values vs. -/
def cellsV : Puts → List Value → List Value
  | y :: ws, v :: vs => .int .i64 y.1 :: v :: cellsV ws vs
  | _, _ => []
theorem cellsV_snoc (y : Int × List Nat) (v : Value) : ∀ (ws : Puts) (vs : List Value), vs.length = ws.length → cellsV (ws ++ [y]) (vs ++ [v]) = cellsV ws vs ++ [.int .i64 y.1, v]
  | [], [], _ => rfl
  | z :: ws, h :: gs, hl => by
    have := cellsV_snoc y v ws gs (by simpa using hl)
    simp [cellsV, this]
  | [], _ :: _, h => by simp at h
  | _ :: _, [], h => by simp at h
theorem cellsV_at : ∀ (ws : Puts) (vs : List Value) (i : Nat), vs.length = ws.length → i < ws.length → (cellsV ws vs)[i * 2]? = some (.int .i64 (ws.getD i (0, [])).1) ∧ (cellsV ws vs)[i * 2 + 1]? = some (vs.getD i undef)
  | y :: ws, v :: vs, 0, _, _ => ⟨rfl, rfl⟩
  | y :: ws, v :: vs, i + 1, h, hi => by
    have := cellsV_at ws vs i (by simpa using h) (by simpa using hi)
    rw [show (i + 1) * 2 = i * 2 + 1 + 1 from by omega]
    simpa [cellsV, List.getD] using this
  | [], _, _, _, h => by simp at h
  | _ :: _, [], _, h, _ => by simp at h
structure PutsG (w : World) (base : Nat) (v : Value) (ws : Puts) (vs : List Value) : Prop where
  len : vs.length = ws.length
  row : w.ownsRow base 71 2 v ws.length (cellsV ws vs)
  rows : ∀ i, i < ws.length → RowG w base (vs.getD i undef) (ws.getD i (0, [])).2
theorem putsG_nil (w : World) (base : Nat) : PutsG w base (.slice none 0 0) [] [] := ⟨rfl, World.ownsRow_nil _ _ _ _, fun i hi => absurd hi (by simp)⟩
theorem PutsG.lies {w : World} {base : Nat} {v : Value} {ws : Puts} {vs : List Value} (h : PutsG w base v ws vs) : ∃ q m, v = .slice q ws.length m ∧ PutsIn w q ws ∧ ws.length ≤ m ∧ m ≤ maxLen ∧ (q = none → m = 0) := by
  rcases h.row.2 with ⟨hv, hn⟩ | ⟨g, cap, cur, hv, hb, hg, hle, hmax, hsz, htk⟩
  · exact ⟨none, 0, by rw [hv, hn], fun h => by omega, by omega, by unfold maxLen; omega, fun _ => rfl⟩
  · subst hv
    refine ⟨_, cap, rfl, fun _ => ⟨g, 0, rfl, fun i hi => ?_⟩, hle, hmax, fun h => by cases h⟩
    obtain ⟨c0, c1⟩ := cellsV_at ws vs i h.len hi
    have e0 : w.cell? ⟨g, i * 2, none⟩ = some (.int .i64 (ws.getD i (0, [])).1) := by rw [h.row.cellAt _ (by omega), c0]
    have e1 : w.cell? ⟨g, i * 2 + 1, none⟩ = some (vs.getD i undef) := by rw [h.row.cellAt _ (by omega), c1]
    exact ⟨by rw [Nat.zero_add]; exact e0, _, by rw [Nat.zero_add]; exact e1, (h.rows i hi).row⟩
theorem PutsG.keepB {w w' : World} {base : Nat} {v : Value} {ws : Puts} {vs : List Value} (h : PutsG w base v ws vs) (hk : ∀ (k : Nat) (cur : Array Value) (t : TypeId), t = 5 ∨ t = 71 → base ≤ k → w.heap[k]? = some (.cells cur t (0, 0)) → w'.heap[k]? = w.heap[k]?) : PutsG w' base v ws vs := by
  refine ⟨h.len, ⟨h.row.1, ?_⟩, fun i hi => (h.rows i hi).keepB fun k cur hb e => hk k cur _ (.inl rfl) hb e⟩
  rcases h.row.2 with h' | ⟨g, cap, cur, h1, h2, h3, h4⟩
  · exact .inl h'
  · exact .inr ⟨g, cap, cur, h1, h2, (hk g cur _ (.inr rfl) h2 h3).trans h3, h4⟩
theorem PutsG.below {w w' : World} {base : Nat} {v : Value} {ws : Puts} {vs : List Value} (h : PutsG w base v ws vs) (hb : Below w.heap.size w w') : PutsG w' base v ws vs := h.keepB fun k _ _ _ _ e => hb.block k (lt_heap e)
theorem PutsG.mono {w : World} {base base' : Nat} {v : Value} {ws : Puts} {vs : List Value} (h : PutsG w base v ws vs) (hb : base' ≤ base) : PutsG w base' v ws vs := by
  refine ⟨h.len, ⟨h.row.1, ?_⟩, fun i hi => (h.rows i hi).mono hb⟩
  rcases h.row.2 with h' | ⟨g, cap, cur, h1, h2, h3⟩
  · exact .inl h'
  · exact .inr ⟨g, cap, cur, h1, Nat.le_trans hb h2, h3⟩
/-- The row of writes is none of bytes. -/
theorem PutsG.apart {w : World} {base : Nat} {v : Value} {ws : Puts} {vs : List Value} (h : PutsG w base v ws vs) {k : Nat} {cs : Array Value} {t : TypeId} (ht : t ≠ 71) (hk : w.heap[k]? = some (.cells cs t (0, 0))) : some k ≠ v.ownBlock := by
  intro e
  rcases h.row.2 with ⟨hv, _⟩ | ⟨g', cap, cur, hv, _, h3, _⟩
  · rw [hv] at e; simp [Value.ownBlock] at e
  · rw [hv] at e
    simp only [Value.ownBlock, Option.some.injEq] at e
    subst e
    rw [hk] at h3
    simp only [Option.some.injEq, Obj.cells.injEq] at h3
    exact ht h3.2.1
theorem PutsG.push {w w1 : World} {base : Nat} {v v' : Value} {ws : Puts} {vs : List Value} {s : Int} {xs : List Nat} {xv : Value} (h : PutsG w base v ws vs) (hx : RowG w base xv xs)
    (hown : w1.ownsRow base 71 2 v' (ws.length + 1) (cellsV ws vs ++ [.int .i64 s, xv])) (hgrow : w.grownBy w1 v.ownBlock) : PutsG w1 base v' (ws ++ [(s, xs)]) (vs ++ [xv]) := by
  have hfar : ∀ (k : Nat) (cs : Array Value), base ≤ k → w.heap[k]? = some (.cells cs 5 (0, 0)) → w1.heap[k]? = w.heap[k]? := fun k cs _ hk => hgrow.block k (lt_heap hk) (h.apart (by decide) hk)
  refine ⟨by simp [h.len], by rw [cellsV_snoc _ _ _ _ h.len]; simpa using hown, ?_⟩
  intro i hi
  simp only [List.length_append, List.length_singleton] at hi
  rcases Nat.lt_or_ge i ws.length with h' | h'
  · have e1 : (vs ++ [xv]).getD i undef = vs.getD i undef := by simp [List.getD, List.getElem?_append_left (show i < vs.length by rw [h.len]; exact h')]
    rw [e1, getD_app_left h']
    exact (h.rows i h').keepB hfar
  · obtain rfl : i = ws.length := by omega
    have e1 : (vs ++ [xv]).getD ws.length undef = xv := by rw [← h.len]; simp [List.getD]
    have e2 : (ws ++ [(s, xs)]).getD ws.length (0, []) = (s, xs) := by simp [List.getD]
    rw [e1, e2]
    exact hx.keepB hfar
/-- A disk of the call's own behind a pointer, as the document's own answers make it. -/
structure DiskG (w : World) (base B0 : Nat) (count : Int) (dv : Value) (data : List Nat) (wv : Value) (ws : Puts) (vs : List Value) : Prop where
  box : w.heap[B0]? = some (.cells #[.int .i64 count, dv, wv] 25 (0, 0))
  hB : base ≤ B0
  data : RowG w base dv data
  puts : PutsG w base wv ws vs
theorem DiskG.below {w w' : World} {base B0 : Nat} {count : Int} {dv wv : Value} {data : List Nat} {ws : Puts} {vs : List Value} (h : DiskG w base B0 count dv data wv ws vs) (hb : Below w.heap.size w w') : DiskG w' base B0 count dv data wv ws vs :=
  ⟨(hb.block _ (lt_heap h.box)).trans h.box, h.hB, h.data.below hb, h.puts.below hb⟩
/-- By value. -/
structure DiskV (w : World) (base : Nat) (v : Value) (count : Int) (data : List Nat) (ws : Puts) : Prop where
  lies : ∃ dv wv vs, v = .agg #[.int .i64 count, dv, wv] ∧ RowG w base dv data ∧ PutsG w base wv ws vs
theorem DiskV.toIn {w : World} {base : Nat} {v : Value} {count : Int} {data : List Nat} {ws : Puts} (h : DiskV w base v count data ws) (hc : (Lit.int .i64 count).wf = true) (hw : ∀ y ∈ ws, (Lit.int .i64 y.1).wf = true) : DiskIn w v count data ws := by
  obtain ⟨dv, wv, vs, rfl, h1, h2⟩ := h.lies
  obtain ⟨q, m, rfl, g1, g2, g3, g4⟩ := h2.lies
  exact ⟨⟨dv, q, m, rfl, h1.row, g1, g2, g3, g4⟩, hc, hw⟩
theorem DiskV.keepB {w w' : World} {base : Nat} {v : Value} {count : Int} {data : List Nat} {ws : Puts} (h : DiskV w base v count data ws) (hk : ∀ (k : Nat) (cur : Array Value) (t : TypeId), t = 5 ∨ t = 71 → base ≤ k → w.heap[k]? = some (.cells cur t (0, 0)) → w'.heap[k]? = w.heap[k]?) : DiskV w' base v count data ws := by
  obtain ⟨dv, wv, vs, h1, h2, h3⟩ := h.lies
  exact ⟨⟨dv, wv, vs, h1, h2.keepB fun k cur hb e => hk k cur _ (.inl rfl) hb e, h3.keepB hk⟩⟩
theorem DiskV.below {w w' : World} {base : Nat} {v : Value} {count : Int} {data : List Nat} {ws : Puts} (h : DiskV w base v count data ws) (hb : Below w.heap.size w w') : DiskV w' base v count data ws := h.keepB fun k _ _ _ _ e => hb.block k (lt_heap e)
theorem DiskV.mono {w : World} {base base' : Nat} {v : Value} {count : Int} {data : List Nat} {ws : Puts} (h : DiskV w base v count data ws) (hb : base' ≤ base) : DiskV w base' v count data ws := by
  obtain ⟨dv, wv, vs, h1, h2, h3⟩ := h.lies
  exact ⟨⟨dv, wv, vs, h1, h2.mono hb, h3.mono hb⟩⟩
theorem DiskV.set3 {w : World} {base B : Nat} {v : Value} {count : Int} {data : List Nat} {ws : Puts} {cs : Array Value} (h : DiskV w base v count data ws) (hB : w.heap[B]? = some (.cells cs 25 (0, 0))) (a b c : Value) :
    DiskV (((w.setCell ⟨B, 0, none⟩ a).setCell ⟨B, 1, none⟩ b).setCell ⟨B, 2, none⟩ c) base v count data ws := by
  refine h.keepB fun k cs' t ht _ e => set3_other w B k a b c ?_
  rintro rfl
  rw [hB] at e
  simp only [Option.some.injEq, Obj.cells.injEq] at e
  rcases ht with rfl | rfl
  · exact absurd e.2.1 (by decide)
  · exact absurd e.2.1 (by decide)
end Go.Proofs.YtkgmhmhphgaclabGreatDoor
