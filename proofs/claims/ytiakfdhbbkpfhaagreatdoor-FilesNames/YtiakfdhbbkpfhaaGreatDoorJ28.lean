/-
  Get: the bytes of a file.
-/
import Derived.Test.YtiakfdhbbkpfhaaGreatDoorJ27
import Derived.Test.YtiakfdhbbkpfhaaGreatDoorJ18
namespace Go.Proofs.YtiakfdhbbkpfhaaGreatDoor
open Go.RowKit Go.WideShapes Rm

/-- What Turn answers: its number and its acts. -/
inductive TurnIs (count : Int) (data : List Nat) (ws : Puts) (r : Option (DirV × Int)) (n : Int) (l : List CV) : Int → Acts → Prop
  | none (h : r = none) : TurnIs count data ws r n l n []
  | chg (x : DirV) (at_ E : Int) (h : r = some (x, at_)) (hE : chgE x.files l = E) (h0 : E ≠ 0) : TurnIs count data ws r n l E []
  | many (x : DirV) (at_ : Int) (h : r = some (x, at_)) (hE : chgE x.files l = 0) (hm : 32 < (x.files.filter fun f => !namedC l f.name).length + (putsC l).length) : TurnIs count data ws r n l 42 []
  | place (x : DirV) (at_ E : Int) (h : r = some (x, at_)) (hE : chgE x.files l = 0) (hm : (x.files.filter fun f => !namedC l f.name).length + (putsC l).length ≤ 32) (hp : placeN count (allPcs x.files) (csOf (putsC l)) = .error E) : TurnIs count data ws r n l E []
  | last (x : DirV) (o : Nat) (P : List FileV) (h : r = some (x, 8 - (o : Int))) (ho : o = 0 ∨ o = 8) (hE : chgE x.files l = 0) (hm : (x.files.filter fun f => !namedC l f.name).length + (putsC l).length ≤ 32) (hp : placeN count (allPcs x.files) (csOf (putsC l)) = .ok P) (hG : genK data ws o x.gen 8 + 1 = 4611686018427387904) : TurnIs count data ws r n l 42 []
  | bad (x : DirV) (o : Nat) (P ss : List FileV) (G m : Int) (b : List Nat) (h : r = some (x, 8 - (o : Int))) (ho : o = 0 ∨ o = 8) (hE : chgE x.files l = 0) (hm : (x.files.filter fun f => !namedC l f.name).length + (putsC l).length ≤ 32) (hp : placeN count (allPcs x.files) (csOf (putsC l)) = .ok P) (hG : genK data ws o x.gen 8 + 1 = G) (hG2 : G ≠ 4611686018427387904) (hpm : ((x.files.filter fun f => !namedC l f.name) ++ P).Perm ss) (hup : ss.Pairwise fun x y => Op.bytesLess y.name.toList x.name.toList = false) (hw : Wrote ⟨G, ss⟩ m b) (hm0 : m ≠ 0) : TurnIs count data ws r n l m []
  | ok (x : DirV) (o : Nat) (P ss : List FileV) (G : Int) (b : List Nat) (F : Acts) (h : r = some (x, 8 - (o : Int))) (ho : o = 0 ∨ o = 8) (hE : chgE x.files l = 0) (hm : (x.files.filter fun f => !namedC l f.name).length + (putsC l).length ≤ 32) (hp : placeN count (allPcs x.files) (csOf (putsC l)) = .ok P) (hG : genK data ws o x.gen 8 + 1 = G) (hG2 : G ≠ 4611686018427387904) (hpm : ((x.files.filter fun f => !namedC l f.name) ++ P).Perm ss) (hup : ss.Pairwise fun x y => Op.bytesLess y.name.toList x.name.toList = false) (hw : Wrote ⟨G, ss⟩ 0 b) (hF : filesA P (valsOf (putsC l)) = F) :
      TurnIs count data ws r n l 0 ((if F = [] then [] else F ++ [flA]) ++ (secsA o b 8 ++ [flA]))
/-- What turn leaves in memory. -/
structure TurnOut (w : World) (S : Int → Acts → Prop) (e : Ending) (w' : World) : Prop where
  ex : ∃ m A v ev L, S m A ∧ e = .returned (.tuple #[v, ev]) ∧ ErrV ev m ∧ AOwn w' w.heap.size v L ∧ L.map Prod.fst = A ∧ Below w.heap.size w w'
theorem place_ne : ∀ {count : Int} {cs : List (ByteArray × List Nat)} {used : Pcs} {E : Int}, placeN count used cs = .error E → E ≠ 0
  | count, [], used, E, h => by cases h
  | count, c :: cs, used, E, h => by
    unfold placeN at h
    split at h
    · cases h; decide
    · split at h
      · rename_i h2
        cases h
        exact h2
      · split at h
        · cases h
        · rename_i h3
          cases h
          exact place_ne h3
theorem tErr_out {w : World} {S : Int → Acts → Prop} {m : Int} {e : Ending} {w' : World} (h : TErr w m e w') (hS : S m []) (hm : m ≠ 0) : TurnOut w S e w' := by
  obtain ⟨ev, rfl, hf, hb⟩ := h.ex
  exact ⟨⟨m, [], _, ev, [], hS, rfl, .inr ⟨hm, hf⟩, aown_nil _ _, rfl, hb⟩⟩
theorem turn_any (v : Value) (count : Int) (data : List Nat) (ws : Puts) (lq : Option Addr) (ln lc : Nat) (l : List CV) (w : World) (hL : Laid w) (hd : DiskIn w v count data ws) (r : Option (DirV × Int)) (n : Int) (hm : MountIs count data ws r n)
    (hl : ChgIn w lq ln lc l) (hvs : ∀ y ∈ l, (y.val.size : Int) ≤ 9223372036854775000) :
    Calls Tryz.prog 38 #[v, .slice lq ln lc] w fun e w' => TurnOut w (TurnIs count data ws r n l) e w' := by
  rcases r with _ | ⟨x, at_⟩
  · refine (turn_none v count data ws lq ln lc w hL hd n hm).mono fun e w' h => tErr_out h (.none rfl) ?_
    rcases mountIs_none hm with h | h <;> omega
  · by_cases hE : chgE x.files l = 0
    · by_cases hfew : (x.files.filter fun f => !namedC l f.name).length + (putsC l).length ≤ 32
      · cases hp : placeN count (allPcs x.files) (csOf (putsC l)) with
        | error E => exact (turn_place v count data ws lq ln lc l w hL hd x at_ n hm hl hvs hE hfew E hp).mono fun e w' h => tErr_out h (.place x at_ E rfl hE hfew hp) (place_ne hp)
        | ok P =>
          obtain ⟨o, ho, hoo⟩ : ∃ o : Nat, at_ = 8 - (o : Int) ∧ (o = 0 ∨ o = 8) := by
            rcases mount_at hm with h | h
            · exact ⟨8, by omega, .inr rfl⟩
            · exact ⟨0, by omega, .inl rfl⟩
          subst ho
          refine (turn_go v count data ws lq ln lc l w hL hd x _ n hm hl hvs hE hfew P hp o rfl (by omega) _ rfl _ rfl).mono fun e w' h => ?_
          rcases h.ex with ⟨hG, ht⟩ | ⟨hG, ss, hpm, hup, m, b, hw, ⟨hm0, ht⟩ | ⟨rfl, v', L, rfl, ha, hLm, hb⟩⟩
          · exact tErr_out ht (.last x o P rfl hoo hE hfew hp hG) (by decide)
          · exact tErr_out ht (.bad x o P ss _ m b rfl hoo hE hfew hp rfl hG hpm hup hw hm0) hm0
          · exact ⟨⟨0, _, v', .nilIface, L, .ok x o P ss _ b _ rfl hoo hE hfew hp rfl hG hpm hup hw rfl, rfl, .inl ⟨rfl, rfl⟩, ha, hLm, hb⟩⟩
      · exact (turn_many v count data ws lq ln lc l w hL hd x at_ n hm hl hE (by omega)).mono fun e w' h => tErr_out h (.many x at_ rfl hE (by omega)) (by decide)
    · exact (turn_chg v count data ws lq ln lc l w hL hd x at_ n hm hl.lies hl.len hl.cap hl.fits hl.keys _ rfl hE).mono fun e w' h => tErr_out h (.chg x at_ _ rfl rfl hE) hE
theorem AOwn.set {w : World} {base : Nat} {v : Value} {l : List ActF} (h : AOwn w base v l) {a : Addr} (ha : a.block < base) (x : Value) : AOwn (w.setCell a x) base v l := ⟨ownsRow_setCell_below h.row ha x, fun y hy => ⟨ownsRow_setCell_below (h.data y hy).own ha x, (h.data y hy).byt⟩⟩
end Go.Proofs.YtiakfdhbbkpfhaaGreatDoor
namespace Go.Proofs.YtiakfdhbbkpfhaaGreatDoor
open Go.RowKit Go.WideShapes Rm

theorem roomD (a b : Addr) (ev old : Value) (n : Int) (u : FrameMode) (w : World) (hg : ErrT w) (hv : ErrV ev n) (ha : w.cell? a = some ev) (hb : w.cell? b = some old) (hf : w.frozen? b = false) :
    CallsD Tryz.prog 34 #[.pointer (some a), .pointer (some b)] u w fun e u' w' => u' = u ∧ e = .returned (.tuple #[]) ∧ ∃ w1, w' = w1.setCell b (.int .i64 n) ∧ Below w.heap.size w w1 := by
  have hn := number_v ev n hv w hg
  have hlt := World.block_lt_of_cell? _ _ hb
  go_enter_d Tryz.func34, Tryz.ntmps34
  go_wp2_with fail
  refine hn.mono ?_
  rintro e w1 ⟨rfl, hb1⟩
  have hb2 : w1.cell? b = some old := (hb1.cell hlt).trans hb
  have hf2 : w1.frozen? b = false := (hb1.frozen hlt).trans hf
  go_wp2
  go_end0
  exact ⟨rfl, w1, rfl, hb1⟩
def roomN (count : Int) : Option (DirV × Int) → Int
  | some (x, _) => count - 80 - takenN x.files
  | none => 0
set_option maxRecDepth 8000 in
set_option maxHeartbeats 2000000 in
theorem Room_any (v : Value) (count : Int) (data : List Nat) (ws : Puts) (w : World) (hL : Laid w) (hd : DiskIn w v count data ws) (r : Option (DirV × Int)) (n : Int) (hm : MountIs count data ws r n) :
    Calls Tryz.prog 10 #[v] w fun e w' => e = .returned (.tuple #[.int .i64 (roomN count r), .int .i64 n]) ∧ Below w.heap.size w w' := by
  obtain ⟨p, c, q, m, rfl, _⟩ := hd.parts
  have hb3 : Below w.heap.size w (((w.alloc (.cells #[.int .i64 count, .slice p data.length c, .slice q ws.length m] 25)).alloc (.cells #[.int .i64 0] 26)).alloc (.cells #[.nilIface] 76)) := ((below_alloc w _).alloc (by simp) _).alloc (by simp; omega) _
  have hfr := free_any4 _ count data ws (((w.alloc (.cells #[.int .i64 count, .slice p data.length c, .slice q ws.length m] 25)).alloc (.cells #[.int .i64 0] 26)).alloc (.cells #[.nilIface] 76)) (hL.below hb3) (hd.below hb3) r n hm
  have HG : Hid (ErrT w) := hL.err
  have hmf : ∀ (fn : Fn) (first cap : Array Value) (w : World), (Instr.makeFunc fn first cap).run Tryz.prog w = .ok (.func fn first cap) w := fun _ _ _ _ => rfl
  have hdk : (((w.alloc (.cells #[.int .i64 count, .slice p data.length c, .slice q ws.length m] 25)).alloc (.cells #[.int .i64 0] 26)).alloc (.cells #[.nilIface] 76)).heap[w.heap.size]? = some (.cells #[.int .i64 count, .slice p data.length c, .slice q ws.length m] 25 (0, 0)) := by
    have h1 := heap_alloc_new w (.cells #[.int .i64 count, .slice p data.length c, .slice q ws.length m] 25)
    have h2 := ((below_alloc (w.alloc (.cells #[.int .i64 count, .slice p data.length c, .slice q ws.length m] 25)) (.cells #[.int .i64 0] 26)).block _ (by simp)).trans h1
    exact ((below_alloc ((w.alloc (.cells #[.int .i64 count, .slice p data.length c, .slice q ws.length m] 25)).alloc (.cells #[.int .i64 0] 26)) (.cells #[.nilIface] 76)).block _ (by simp; omega)).trans h2
  obtain ⟨c0, c1, c2⟩ := three_cells hdk
  have HMI : Hid (MountIs count data ws r n) := hm
  clear hL hd hm hdk
  rcases r with _ | ⟨x, at_⟩
  · go_enter_defers Tryz.func10, Tryz.ntmps10
    go_wp2_with fail
    refine hfr.mono ?_
    rintro e w1 ⟨ev, rfl, hfl, hbb⟩
    have hs1 := hbb.size
    simp at hs1
    obtain ⟨ce, cr, fe, fr⟩ := vars2 (a := .int .i64 0) (b := .nilIface) (s := 26) (t := 76) (w.alloc (.cells #[.int .i64 count, .slice p data.length c, .slice q ws.length m] 25)) w1 hbb
    simp only [heap_size_alloc] at ce cr fe fr
    have HB : Hid (Below w.heap.size w w1) := hb3.trans (hbb.mono hb3.size)
    have HE : Hid (ErrV ev n) := .inr ⟨by rcases mountIs_none HMI.out with h | h <;> omega, hfl⟩
    obtain ⟨tx, vx, rfl⟩ := hfl.iface
    clear hbb hfr hb3 hfl c0 c1 c2
    have hdoor := doorV (A := ⟨w.heap.size + 1 + 1, 0, none⟩) (E := ⟨w.heap.size + 1, 0, none⟩) (by simp) cr ce fr fe (ev := (.iface tx vx))
    have HDR : Hid (((w1.setCell ⟨w.heap.size + 1 + 1, 0, none⟩ (.iface tx vx)).setCell ⟨w.heap.size + 1, 0, none⟩ (.int .i64 0)).cell? ⟨w.heap.size + 1 + 1, 0, none⟩ = some (.iface tx vx) ∧ ((w1.setCell ⟨w.heap.size + 1 + 1, 0, none⟩ (.iface tx vx)).setCell ⟨w.heap.size + 1, 0, none⟩ (.int .i64 0)).cell? ⟨w.heap.size + 1, 0, none⟩ = some (.int .i64 0) ∧ ((w1.setCell ⟨w.heap.size + 1 + 1, 0, none⟩ (.iface tx vx)).setCell ⟨w.heap.size + 1, 0, none⟩ (.int .i64 0)).frozen? ⟨w.heap.size + 1, 0, none⟩ = false) := hdoor
    clear hdoor
    go_wp2
    obtain ⟨g1, g2, g3⟩ := HDR.out
    have hbW : Below w.heap.size w ((w1.setCell ⟨w.heap.size + 1 + 1, 0, none⟩ (.iface tx vx)).setCell ⟨w.heap.size + 1, 0, none⟩ (.int .i64 0)) := (HB.out.setCell (by simp; omega) _).setCell (by simp) _
    generalize (w1.setCell ⟨w.heap.size + 1 + 1, 0, none⟩ (.iface tx vx)).setCell ⟨w.heap.size + 1, 0, none⟩ (.int .i64 0) = W at *
    refine leaves_cons (f := 34) (args := #[.pointer (some ⟨w.heap.size + 1 + 1, 0, none⟩), .pointer (some ⟨w.heap.size + 1, 0, none⟩)]) (by simp) (by simp [go_sem]) ?_
    refine (roomD ⟨w.heap.size + 1 + 1, 0, none⟩ ⟨w.heap.size + 1, 0, none⟩ (.iface tx vx) (.int .i64 0) n .returning _ (HG.out.below hbW) HE.out g1 g2 g3).mono ?_
    rintro e u' w'' ⟨rfl, rfl, w3, rfl, hb3⟩
    have hltE := World.block_lt_of_cell? _ _ g2
    have k1 : (w3.setCell ⟨w.heap.size + 1, 0, none⟩ (.int .i64 n)).cell? ⟨w.heap.size + 1, 0, none⟩ = some (.int .i64 n) := World.cell?_setCell_same _ _ _ ((hb3.cell hltE).trans g2)
    have k2 : Below w.heap.size w (w3.setCell ⟨w.heap.size + 1, 0, none⟩ (.int .i64 n)) := (hbW.trans (hb3.mono hbW.size)).setCell (by simp) _
    generalize w3.setCell ⟨w.heap.size + 1, 0, none⟩ (.int .i64 n) = w4 at *
    simp [Leaves, settle, results, Tryz.results10, go_sem, k1]
    exact ⟨rfl, k2⟩
  · obtain ⟨_, _, hn0, _⟩ := mountIs_some HMI.out
    subst hn0
    go_enter_defers Tryz.func10, Tryz.ntmps10
    go_wp2_with fail
    refine hfr.mono ?_
    rintro e w1 ⟨rfl, hbb⟩
    have hs1 := hbb.size
    simp at hs1
    obtain ⟨ce, cr, fe, fr⟩ := vars2 (a := .int .i64 0) (b := .nilIface) (s := 26) (t := 76) (w.alloc (.cells #[.int .i64 count, .slice p data.length c, .slice q ws.length m] 25)) w1 hbb
    simp only [heap_size_alloc] at ce cr fe fr
    have HB : Hid (Below w.heap.size w w1) := hb3.trans (hbb.mono hb3.size)
    have HE : Hid (ErrV .nilIface 0) := .inl ⟨rfl, rfl⟩
    obtain ⟨K, hK⟩ : ∃ K, count - 80 - takenN x.files = K := ⟨_, rfl⟩
    have HK : Hid (roomN count (some (x, at_)) = K) := hK
    rw [hK]
    clear hbb hfr hb3 c0 c1 c2 hK
    have hdoor := doorV (A := ⟨w.heap.size + 1 + 1, 0, none⟩) (E := ⟨w.heap.size + 1, 0, none⟩) (by simp) cr ce fr fe (ev := .nilIface)
    have HDR : Hid (((w1.setCell ⟨w.heap.size + 1 + 1, 0, none⟩ .nilIface).setCell ⟨w.heap.size + 1, 0, none⟩ (.int .i64 0)).cell? ⟨w.heap.size + 1 + 1, 0, none⟩ = some .nilIface ∧ ((w1.setCell ⟨w.heap.size + 1 + 1, 0, none⟩ .nilIface).setCell ⟨w.heap.size + 1, 0, none⟩ (.int .i64 0)).cell? ⟨w.heap.size + 1, 0, none⟩ = some (.int .i64 0) ∧ ((w1.setCell ⟨w.heap.size + 1 + 1, 0, none⟩ .nilIface).setCell ⟨w.heap.size + 1, 0, none⟩ (.int .i64 0)).frozen? ⟨w.heap.size + 1, 0, none⟩ = false) := hdoor
    clear hdoor
    go_wp2
    obtain ⟨g1, g2, g3⟩ := HDR.out
    have hbW : Below w.heap.size w ((w1.setCell ⟨w.heap.size + 1 + 1, 0, none⟩ .nilIface).setCell ⟨w.heap.size + 1, 0, none⟩ (.int .i64 0)) := (HB.out.setCell (by simp; omega) _).setCell (by simp) _
    generalize (w1.setCell ⟨w.heap.size + 1 + 1, 0, none⟩ .nilIface).setCell ⟨w.heap.size + 1, 0, none⟩ (.int .i64 0) = W at *
    refine leaves_cons (f := 34) (args := #[.pointer (some ⟨w.heap.size + 1 + 1, 0, none⟩), .pointer (some ⟨w.heap.size + 1, 0, none⟩)]) (by simp) (by simp [go_sem]) ?_
    refine (roomD ⟨w.heap.size + 1 + 1, 0, none⟩ ⟨w.heap.size + 1, 0, none⟩ .nilIface (.int .i64 0) 0 .returning _ (HG.out.below hbW) HE.out g1 g2 g3).mono ?_
    rintro e u' w'' ⟨rfl, rfl, w3, rfl, hb3⟩
    have hltE := World.block_lt_of_cell? _ _ g2
    have k1 : (w3.setCell ⟨w.heap.size + 1, 0, none⟩ (.int .i64 0)).cell? ⟨w.heap.size + 1, 0, none⟩ = some (.int .i64 0) := World.cell?_setCell_same _ _ _ ((hb3.cell hltE).trans g2)
    have k2 : Below w.heap.size w (w3.setCell ⟨w.heap.size + 1, 0, none⟩ (.int .i64 0)) := (hbW.trans (hb3.mono hbW.size)).setCell (by simp) _
    generalize w3.setCell ⟨w.heap.size + 1, 0, none⟩ (.int .i64 0) = w4 at *
    simp [Leaves, settle, results, Tryz.results10, go_sem, k1]
    exact ⟨by rw [HK.out], k2⟩
end Go.Proofs.YtiakfdhbbkpfhaaGreatDoor
namespace Go.Proofs.YtiakfdhbbkpfhaaGreatDoor
open Go.RowKit Go.WideShapes Rm

/-- What Get answers: its number, its bytes. -/
def getN (data : List Nat) (ws : Puts) (r : Option (DirV × Int)) (n : Int) (name : ByteArray) : Int × List Nat :=
  match r with
  | none => (n, [])
  | some (x, _) => if isNameN name = true then (match findN x.files name with | some k => (0, fileD data ws (x.files.getD k zeroF)) | none => (6, [])) else (5, [])
def GetP (w : World) (z : Int × List Nat) (e : Ending) (w' : World) : Prop :=
  ∃ v ev, e = .returned (.tuple #[v, ev]) ∧ w'.ownsRow w.heap.size 5 1 v z.2.length (Bs z.2) ∧ ErrV ev z.1 ∧ Below w.heap.size w w'
theorem getP_err {w w' : World} {z : Int × List Nat} {e : Ending} {ev : Value} (m : Int) (hz : z = (m, [])) (he : e = .returned (.tuple #[.slice none 0 0, ev])) (hv : ErrV ev m) (hb : Below w.heap.size w w') : GetP w z e w' := by
  subst hz
  exact ⟨_, _, he, World.ownsRow_nil _ _ _ _, hv, hb⟩
theorem own_take {w : World} {base n k m : Nat} {e : TypeId} {q : Option Addr} {xs : List Value} (h : w.ownsRow base e 1 (.slice q n m) n xs) (hk : k ≤ n) : w.ownsRow base e 1 (.slice q k m) k (xs.take k) := by
  obtain ⟨h1, h2⟩ := h
  refine ⟨by rw [List.length_take]; omega, ?_⟩
  rcases h2 with ⟨hv, h0⟩ | ⟨g, cap, cur, hv, a, b, c, d, f, t⟩
  · obtain ⟨rfl, _, rfl⟩ := Value.slice.inj hv
    exact .inl ⟨by rw [show k = 0 by omega], by omega⟩
  · obtain ⟨rfl, _, rfl⟩ := Value.slice.inj hv
    refine .inr ⟨g, m, cur, rfl, a, b, by omega, d, f, ?_⟩
    rw [← t, List.take_take]
    congr 1
    omega
theorem Bs_take (xs : List Nat) (k : Nat) : (Bs xs).take k = Bs (xs.take k) := by simp [Bs, List.map_take]
theorem take_int {l : List Int} {k : Nat} (h : k < l.length) : l.take (k + 1) = l.take k ++ [l.getD k 0] := by
  rw [List.take_succ_eq_append_getElem h, List.getD_eq_getElem?_getD, List.getElem?_eq_getElem h]; rfl
theorem pcs_len {l : List FileV} {f : FileV} (hf : f ∈ l) : f.pcs.length ≤ (allPcs l).length := by
  obtain ⟨a, b, e⟩ := List.append_of_mem hf
  have e2 : allPcs l = allPcs a ++ (f.pcs ++ allPcs b) := by rw [e]; simp [allPcs]
  rw [e2]
  simp only [List.length_append]
  omega
set_option maxRecDepth 8000 in
set_option maxHeartbeats 8000000 in
theorem get_any (v : Value) (name : ByteArray) (count : Int) (data : List Nat) (ws : Puts) (w : World) (hL : Laid w) (hd : DiskIn w v count data ws) (hs : (name.size : Int) ≤ 9223372036854775807) (r : Option (DirV × Int)) (n : Int) (hm : MountIs count data ws r n) :
    Calls Tryz.prog 78 #[v, .string name] w fun e w' => GetP w (getN data ws r n name) e w' := by
  obtain ⟨p, c, q, m, rfl, _⟩ := hd.parts
  have HMT := fun wx (hb : Below w.heap.size w wx) => mount_any _ count data ws wx (hL.below hb) (hd.below hb) r n hm
  have HDB : Hid ((w.alloc (.cells #[.int .i64 count, .slice p data.length c, .slice q ws.length m] 25)).heap[w.heap.size]? = some (.cells #[.int .i64 count, .slice p data.length c, .slice q ws.length m] 25 (0, 0))) := heap_alloc_new _ _
  have HD : Hid (DiskIn w (.agg #[.int .i64 count, .slice p data.length c, .slice q ws.length m]) count data ws) := hd
  clear hd hL
  rcases r with _ | ⟨x, at_⟩
  · have HN0 : Hid (n ≠ 0) := by show _ ≠ _; rcases mountIs_none hm with h | h <;> omega
    clear hm
    go_enter Tryz.func78, Tryz.ntmps78
    go_wp2_with fail
    refine (HMT _ (below_alloc w _)).mono ?_
    rintro e w2 ⟨ev, rfl, hfa, hb2⟩
    have HFA : Hid (Faults ev n) := hfa
    have HB2 : Hid (Below w.heap.size w w2) := below_bt (below_alloc _ _) hb2
    obtain ⟨T, vv, rfl⟩ : ∃ T vv, ev = .iface T vv := by cases hfa <;> exact ⟨_, _, rfl⟩
    clear hfa hb2 HMT
    go_wp2
    go_ret2
    exact getP_err n rfl rfl (.inr ⟨HN0.out, HFA.out⟩) (below_bt HB2.out (below_alloc _ _))
  · obtain ⟨hmay, hek, hn, hc96, hok⟩ := mountIs_some hm
    have HMAY : Hid (May ltS x) := hmay
    have HEK : Hid (errK count (allPcs x.files) = 0) := hek
    have HOK : Hid (Okay count data ws) := hok
    have HC : Hid (96 ≤ count ∧ count ≤ 4096) := ⟨hc96, hok.hi⟩
    clear hmay hek hn hc96 hok hm
    go_enter Tryz.func78, Tryz.ntmps78
    go_wp2_with fail
    refine (HMT _ (below_alloc w _)).mono ?_
    rintro e w2 ⟨ls, lv, hls, rfl, hfo, hb2⟩
    have hfin := hfo.files HMAY.out hls
    obtain ⟨lq, lc, rfl, hfi, _, _, _⟩ := hfin.lies
    obtain ⟨L, hLn⟩ : ∃ L, x.files.length = L := ⟨_, rfl⟩
    have HLN : Hid (x.files.length = L) := hLn
    have hLI : (L : Int) ≤ 32 := by have := HMAY.out.many; omega
    rw [hLn] at hfin ⊢
    clear hLn
    have bx := below_alloc w2 (.cells #[.int .i64 x.gen, .slice lq L lc] 31)
    have hbb := below_bt hb2 bx
    have HDB3 : Hid ((w2.alloc (.cells #[.int .i64 x.gen, .slice lq L lc] 31)).heap[w.heap.size]? = some (.cells #[.int .i64 count, .slice p data.length c, .slice q ws.length m] 25 (0, 0))) := (hbb.block _ (lt_heap HDB.out)).trans HDB.out
    have HXB3 : Hid ((w2.alloc (.cells #[.int .i64 x.gen, .slice lq L lc] 31)).heap[w2.heap.size]? = some (.cells #[.int .i64 x.gen, .slice lq L lc] 31 (0, 0))) := heap_alloc_new _ _
    have HFI3 : Hid (FIn (w2.alloc (.cells #[.int .i64 x.gen, .slice lq L lc] 31)) (.slice lq L lc) x.files) := hfin.below bx
    have HB3 : Hid (Below w.heap.size w (w2.alloc (.cells #[.int .i64 x.gen, .slice lq L lc] 31))) := below_bt (below_alloc w _) hbb
    clear hls hfo hb2 hfin hfi bx hbb HMT HDB
    cases hnm : isNameN name with
    | false =>
      have hin := fun wx => isName_r name false hnm wx hs
      have HG : Hid (getN data ws (some (x, at_)) n name = (5, [])) := by show _ = _; simp [getN, hnm]
      clear hnm
      go_wp2_with fail
      refine (hin _).mono ?_
      rintro e w3 ⟨rfl, rfl⟩
      go_wp2
      go_ret2
      exact getP_err 5 HG.out rfl (.inr ⟨by decide, Faults.one _ _⟩) HB3.out
    | true =>
      have hin := fun wx => isName_r name true hnm wx hs
      have hfc := find_any4 _ x.files name _ HFI3.out
      go_wp2_with fail
      refine (hin _).mono ?_
      rintro e w3 ⟨rfl, he3⟩
      have x0 : (w2.alloc (.cells #[.int .i64 x.gen, .slice lq L lc] 31)).cell? ⟨w2.heap.size, 0, none⟩ = some (.int .i64 x.gen) := Lib.cell_of_heap HXB3.out 0
      have x1 : (w2.alloc (.cells #[.int .i64 x.gen, .slice lq L lc] 31)).cell? ⟨w2.heap.size, 1, none⟩ = some (.slice lq L lc) := Lib.cell_of_heap HXB3.out 1
      generalize w2.alloc (.cells #[.int .i64 x.gen, .slice lq L lc] 31) = w3' at *
      subst he3
      generalize w2.heap.size = gX at *
      cases hfd : findN x.files name with
      | none =>
        have HG : Hid (getN data ws (some (x, at_)) n name = (6, [])) := by show _ = _; simp [getN, hnm, hfd]
        have hfI : findI x.files name = -1 := by unfold findI; rw [hfd]
        rw [hfI] at hfc
        clear hnm hfd hfI hin
        go_wp2_with fail
        refine hfc.mono ?_
        rintro e w4 ⟨rfl, hb4⟩
        have HB4 : Hid (Below w.heap.size w w4) := below_bt HB3.out hb4
        clear hb4 hfc
        go_wp2
        go_ret2
        exact getP_err 6 HG.out rfl (.inr ⟨by decide, Faults.one _ _⟩) HB4.out
      | some k =>
        have HG : Hid (getN data ws (some (x, at_)) n name = (0, fileD data ws (x.files.getD k zeroF))) := by show _ = _; simp [getN, hnm, hfd]
        have hfI : findI x.files name = (k : Int) := by unfold findI; rw [hfd]
        rw [hfI] at hfc
        have hkl := (findN_some hfd).1
        have hkI : (k : Int) < (L : Int) := by have := HLN.out; omega
        have hkI0 : (0 : Int) ≤ (k : Int) := by omega
        clear hnm hfd hfI hin
        go_wp2_with fail
        refine hfc.mono ?_
        rintro e w4 ⟨rfl, hb4⟩
        have HB4 : Hid (Below w.heap.size w w4) := below_bt HB3.out hb4
        have HDB4 : Hid (w4.heap[w.heap.size]? = some (.cells #[.int .i64 count, .slice p data.length c, .slice q ws.length m] 25 (0, 0))) := (hb4.block _ (lt_heap HDB3.out)).trans HDB3.out
        have HXB4 : Hid (w4.heap[gX]? = some (.cells #[.int .i64 x.gen, .slice lq L lc] 31 (0, 0))) := (hb4.block _ (lt_heap HXB3.out)).trans HXB3.out
        obtain ⟨q3, c3, e3, hfi4, _⟩ := (HFI3.out.below hb4).lies
        obtain ⟨e4, _, e5⟩ := Value.slice.inj e3
        subst e4
        obtain ⟨fb, fo, pv, hfe, z0, z1, z2, hpin⟩ := hfi4.file hkl
        subst hfe
        have hmem : x.files.getD k zeroF ∈ x.files := by rw [List.getD_eq_getElem?_getD, List.getElem?_eq_getElem hkl]; exact List.getElem_mem _
        have hfok := HMAY.out.each _ hmem
        have hgd := may_good HEK.out hmem
        have hgd4 := may_good HMAY.out.pcs hmem
        have hpl : (x.files.getD k zeroF).pcs.length ≤ 4096 := by
          have h1 := (errK_zero HMAY.out.pcs).2.1
          have h2 := pcs_len hmem
          omega
        obtain ⟨hr1, hr2, hr3, hr4⟩ := file_room HOK.out hfok hgd
        have hsN : secsN (x.files.getD k zeroF).pcs = secs (x.files.getD k zeroF).pcs := by unfold secsN; rw [if_pos (errK_ok (by omega) hpl hgd4)]
        have x0 : w4.cell? ⟨gX, 0, none⟩ = some (.int .i64 x.gen) := Lib.cell_of_heap HXB4.out 0
        have x1 : w4.cell? ⟨gX, 1, none⟩ = some (.slice (some ⟨fb, fo, none⟩) L lc) := Lib.cell_of_heap HXB4.out 1
        have hsc := sectors_any4 (x.files.getD k zeroF).name (x.files.getD k zeroF).size pv _ w4 hpin
        rw [hsN] at hsc
        have hsz0 := hfok.2.1
        have hsz1 := hfok.2.2.1
        have hKn : (secs (x.files.getD k zeroF).pcs).length ≤ 4096 := by have h1 := hr3; unfold needsN at h1; omega
        obtain ⟨pq, pc, rfl, _⟩ := hpin.lies
        have HFD : Hid (fileD data ws (x.files.getD k zeroF) = (secsD data ws (secs (x.files.getD k zeroF).pcs)).take (x.files.getD k zeroF).size.toNat) := rfl
        clear hpin hfi4 hb4 hfc hmem hfok hgd hgd4 hpl hr2 hr3 hsN e3 hkl
        generalize x.files.getD k zeroF = f at *
        obtain ⟨fnm, fsz, fpc⟩ := f
        simp only at z0 z1 z2 hr1 hr4 hsc hsz0 hsz1 hKn HFD
        obtain ⟨Sz, rfl⟩ : ∃ Sz : Nat, fsz = (Sz : Int) := ⟨fsz.toNat, by omega⟩
        rw [Int.toNat_natCast] at hr1
        have HFD2 : Hid (fileD data ws ⟨fnm, (Sz : Int), fpc⟩ = (secsD data ws (secs fpc)).take Sz) := by have h := HFD.out; rw [Int.toNat_natCast] at h; exact h
        clear HFD
        obtain ⟨PL, hPL⟩ : ∃ PL, fpc.length = PL := ⟨_, rfl⟩
        rw [hPL] at z2 hsc
        clear hPL
        obtain ⟨S, hS⟩ : ∃ S, secs fpc = S := ⟨_, rfl⟩
        rw [hS] at hr1 hr4 hsc hKn HFD2
        clear hS
        have HZ1 : Hid (w4.cell? ⟨fb, fo + k * 3 + 1, none⟩ = some (.int .i64 (Sz : Int))) := z1
        go_wp2_with fail
        refine hsc.mono ?_
        rintro e w5 ⟨sq, sc, rfl, hso, hb5⟩
        have HSO : Hid (IOwn w5 w4.heap.size (.slice sq S.length sc) S) := hso
        have HS0 : Hid (St w5 [(gX, #[.int .i64 x.gen, .slice (some ⟨fb, fo, none⟩) L lc], 31), (w.heap.size, #[.int .i64 count, .slice p data.length c, .slice q ws.length m], 25)] w5 (.slice none 0 0) []) := by
          refine St.start (fun b hb => ?_)
          rcases List.mem_cons.1 hb with rfl | hb
          · exact ⟨(hb5.block _ (lt_heap HXB4.out)).trans HXB4.out, by simp⟩
          · obtain rfl := List.mem_singleton.1 hb
            exact ⟨(hb5.block _ (lt_heap HDB4.out)).trans HDB4.out, by simp⟩
        have HZ5 : Hid (w5.cell? ⟨fb, fo + k * 3 + 1, none⟩ = some (.int .i64 (Sz : Int))) := (hb5.cell (World.block_lt_of_cell? _ _ HZ1.out)).trans HZ1.out
        have HB5 : Hid (Below w.heap.size w w5) := below_bt HB4.out hb5
        have HR : Hid (Sz ≤ (secsD data ws S).length ∧ (∀ n ∈ S, 0 ≤ n ∧ n < count)) := ⟨hr1, hr4⟩
        obtain ⟨K, hK⟩ : ∃ K, S.length = K := ⟨_, rfl⟩
        have HK : Hid (S.length = K) := hK
        rw [hK] at HSO hKn ⊢
        have hKI : (K : Int) ≤ 4096 := by omega
        clear hso hb5 hsc hK x0 x1 z0 z1 z2 hr1 hr4 HZ1
        go_wp2
        go_loopw [10, 45] (fun b i wr => ∃ j : Nat, j ≤ K ∧ i = .int .i64 (j : Int) ∧ (∀ c ∈ secsD data ws (S.take j), c < 256) ∧ (secsD data ws (S.take j)).length = j * 128 ∧ ∃ bq bc, b = .slice bq (secsD data ws (S.take j)).length bc ∧ St w5 [(gX, #[.int .i64 x.gen, .slice (some ⟨fb, fo, none⟩) L lc], 31), (w.heap.size, #[.int .i64 count, .slice p data.length c, .slice q ws.length m], 25)] wr (.slice bq (secsD data ws (S.take j)).length bc) (secsD data ws (S.take j))) (fun _ i _ => K - (intOf i).toNat)
        case atStart => exact ⟨0, by omega, rfl, (fun c hc => by simp [secsD] at hc), rfl, none, 0, rfl, HS0.out⟩
        case round =>
          obtain ⟨j, hj, rfl, hby, hlen, bq, bc, rfl, hst⟩ := hrel
          obtain ⟨KL, hKL⟩ : ∃ KL, (secsD data ws (S.take j)).length = KL := ⟨_, rfl⟩
          rw [hKL] at hst ⊢
          have HKL : Hid ((secsD data ws (S.take j)).length = KL) := hKL
          have HBY : Hid ((∀ c ∈ secsD data ws (S.take j), c < 256) ∧ (secsD data ws (S.take j)).length = j * 128) := ⟨hby, hlen⟩
          have HST : Hid (St w5 [(gX, #[.int .i64 x.gen, .slice (some ⟨fb, fo, none⟩) L lc], 31), (w.heap.size, #[.int .i64 count, .slice p data.length c, .slice q ws.length m], 25)] wr (.slice bq KL bc) (secsD data ws (S.take j))) := hst
          have c0 : wr.cell? ⟨w.heap.size, 0, none⟩ = some (.int .i64 count) := hst.cell (List.Mem.tail _ (List.Mem.head _)) 0
          have c1 : wr.cell? ⟨w.heap.size, 1, none⟩ = some (.slice p data.length c) := hst.cell (List.Mem.tail _ (List.Mem.head _)) 1
          have c2 : wr.cell? ⟨w.heap.size, 2, none⟩ = some (.slice q ws.length m) := hst.cell (List.Mem.tail _ (List.Mem.head _)) 2
          clear hby hlen hKL
          by_cases hjK : j < K
          · have hjI : (j : Int) < (K : Int) := by omega
            have hjI0 : (0 : Int) ≤ (j : Int) := by omega
            have HJ : Hid (j < K) := hjK
            have hjS : j < S.length := by have := HK.out; omega
            have hsm : S.getD j 0 ∈ S := by rw [List.getD_eq_getElem?_getD, List.getElem?_eq_getElem hjS]; exact List.getElem_mem _
            have hrg := HR.out.2 _ hsm
            obtain ⟨sg, hsq, hsc0⟩ := HSO.out.at hjS
            subst hsq
            have s0 := (hst.bel.cell (World.block_lt_of_cell? _ _ hsc0)).trans hsc0
            obtain ⟨t, ht⟩ : ∃ t : Nat, S.getD j 0 = (t : Int) := ⟨(S.getD j 0).toNat, by omega⟩
            rw [ht] at s0 hrg
            have HT : Hid (S.getD j 0 = (t : Int) ∧ j < S.length) := ⟨ht, hjS⟩
            have hnw := fnow_any _ t count data ws wr (HD.out.below (below_bt HB5.out hst.bel)) HOK.out hrg.2
            clear hst hjK hj hjS hsm hrg hsc0 ht
            go_wp2_with fail
            refine hnw.mono ?_
            rintro e w6 ⟨⟨g, rfl, hbi, hl, hby⟩, hb6⟩
            have HN : Hid ((nowN data ws t).length = 128 ∧ (∀ c ∈ nowN data ws t, c < 256)) := ⟨hl, hby⟩
            have HI2 : Hid (BIn w6 (some ⟨g, 0, none⟩) (nowN data ws t)) := hbi
            have S2 := HST.out.call hb6
            have hsz2 := S2.size
            have HS2 : Hid (St w5 [(gX, #[.int .i64 x.gen, .slice (some ⟨fb, fo, none⟩) L lc], 31), (w.heap.size, #[.int .i64 count, .slice p data.length c, .slice q ws.length m], 25)] w6 (.slice bq KL bc) (secsD data ws (S.take j))) := S2
            clear S2 hb6 hbi hl hby hnw HST c0 c1 c2 s0
            go_wp2_with (at_builtin; refine wpList_append_bytes _ rfl _ _ rfl w5.heap.size _ _ (nowN data ws t) (some ⟨g, 0, none⟩) _ 128 rfl rfl HN.out.1.symm HS2.out.own HI2.out (fun h => by cases h) (by have := HBY.out.2; have := HN.out.1; have := HJ.out; omega) hsz2 ?_; intro v3 w7 ho3 hg3; have S3 := HS2.out.app ho3 hg3; have HS3 : Hid (St w5 [(gX, #[.int .i64 x.gen, .slice (some ⟨fb, fo, none⟩) L lc], 31), (w.heap.size, #[.int .i64 count, .slice p data.length c, .slice q ws.length m], 25)] w7 v3 (secsD data ws (S.take j) ++ nowN data ws t)) := S3; clear S3 ho3 hg3)
            go_roundw
            case rel =>
              have hnx : secsD data ws (S.take (j + 1)) = secsD data ws (S.take j) ++ nowN data ws t := by rw [take_int HT.out.2, secsD_snoc, HT.out.1]
              have hs3 := HS3.out.eq hnx.symm
              obtain ⟨q3, c3, rfl, _, _, _⟩ := own_form hs3.own
              refine ⟨j + 1, HJ.out, by go_num, ?_, ?_, q3, c3, rfl, hs3⟩
              · intro c hc
                rw [hnx] at hc
                rcases List.mem_append.1 hc with hc | hc
                · exact HBY.out.1 c hc
                · exact HN.out.2 c hc
              · rw [hnx, List.length_append, HBY.out.2, HN.out.1]; omega
            case measure => have := HJ.out; simp [intOf]; omega
          · have hjI : (K : Int) ≤ (j : Int) := by omega
            obtain rfl : j = K := by omega
            have hall : S.take j = S := by rw [List.take_of_length_le (by have := HK.out; omega)]
            have HST2 : Hid (St w5 [(gX, #[.int .i64 x.gen, .slice (some ⟨fb, fo, none⟩) L lc], 31), (w.heap.size, #[.int .i64 count, .slice p data.length c, .slice q ws.length m], 25)] wr (.slice bq KL bc) (secsD data ws S)) := by rw [hall] at hst; exact hst
            have hKS : KL = (secsD data ws S).length := by rw [← HKL.out, hall]
            have x0 : wr.cell? ⟨gX, 0, none⟩ = some (.int .i64 x.gen) := hst.cell (List.Mem.head _) 0
            have x1 : wr.cell? ⟨gX, 1, none⟩ = some (.slice (some ⟨fb, fo, none⟩) L lc) := hst.cell (List.Mem.head _) 1
            have z1 := (hst.bel.cell (World.block_lt_of_cell? _ _ HZ5.out)).trans HZ5.out
            have hrow : wr.ownsRow w5.heap.size 5 1 (.slice bq KL bc) KL (Bs (secsD data ws S)) := by have h := HST2.out.own; rw [← hKS] at h; exact h
            have hSzK : Sz ≤ KL := by rw [hKS]; exact HR.out.1
            have HROW : Hid (wr.ownsRow w5.heap.size 5 1 (.slice bq Sz bc) Sz (Bs ((secsD data ws S).take Sz)) ∧ ((secsD data ws S).take Sz).length = Sz) := ⟨by rw [← Bs_take]; exact own_take hrow hSzK, by rw [List.length_take]; omega⟩
            obtain ⟨q4, c4, e4, hkc, hcm, hq0⟩ := own_form hrow
            obtain ⟨r1, _, r3⟩ := Value.slice.inj e4
            subst r1 r3
            unfold maxLen at hcm
            have HBW : Hid (Below w.heap.size w wr) := below_bt HB5.out HST2.out.bel
            clear hst hall hKS hrow e4 HST HST2 HS0 c0 c1 c2 hjK hj
            have hfin : ∀ e, e = .returned (.tuple #[.slice bq Sz bc, .nilIface]) → GetP w (getN data ws (some (x, at_)) n name) e wr := fun e he => by
              rw [HG.out, HFD2.out]
              refine ⟨_, _, he, ?_, .inl ⟨rfl, rfl⟩, HBW.out⟩
              show wr.ownsRow w.heap.size 5 1 (.slice bq Sz bc) ((secsD data ws S).take Sz).length _
              rw [HROW.out.2]
              exact own_mono HROW.out.1 HB5.out.size
            have HF : Hid (∀ e, e = .returned (.tuple #[.slice bq Sz bc, .nilIface]) → GetP w (getN data ws (some (x, at_)) n name) e wr) := hfin
            clear hfin
            rcases bq with _ | ⟨gb, go_, gi⟩
            · obtain rfl := hq0 rfl
              obtain rfl : KL = 0 := by omega
              obtain rfl : Sz = 0 := by omega
              go_wp2
              go_ret2
              exact HF.out _ rfl
            · go_wp2
              go_ret2
              exact HF.out _ rfl
end Go.Proofs.YtiakfdhbbkpfhaaGreatDoor
namespace Go.Proofs.YtiakfdhbbkpfhaaGreatDoor
open Go.RowKit Go.WideShapes Rm

theorem getD4 (a b : Addr) (ev old : Value) (n : Int) (u : FrameMode) (w : World) (hg : ErrT w) (hv : ErrV ev n) (ha : w.cell? a = some ev) (hb : w.cell? b = some old) (hf : w.frozen? b = false) :
    CallsD Tryz.prog 77 #[.pointer (some a), .pointer (some b)] u w fun e u' w' => u' = u ∧ e = .returned (.tuple #[]) ∧ ∃ w1, w' = w1.setCell b (.int .i64 n) ∧ Below w.heap.size w w1 := by
  have hn := number_v ev n hv w hg
  have hlt := World.block_lt_of_cell? _ _ hb
  go_enter_d Tryz.func77, Tryz.ntmps77
  go_wp2_with fail
  refine hn.mono ?_
  rintro e w1 ⟨rfl, hb1⟩
  have hb2 : w1.cell? b = some old := (hb1.cell hlt).trans hb
  have hf2 : w1.frozen? b = false := (hb1.frozen hlt).trans hf
  go_wp2
  go_end0
  exact ⟨rfl, w1, rfl, hb1⟩
set_option maxRecDepth 8000 in
set_option maxHeartbeats 4000000 in
theorem Get_any (v : Value) (name : ByteArray) (count : Int) (data : List Nat) (ws : Puts) (w : World) (hL : Laid w) (hd : DiskIn w v count data ws) (hs : (name.size : Int) ≤ 9223372036854775807) (r : Option (DirV × Int)) (n : Int) (hm : MountIs count data ws r n) (zn : Int) (zl : List Nat) (hz : getN data ws r n name = (zn, zl)) :
    Calls Tryz.prog 44 #[v, .string name] w fun e w' => (∃ lv, e = .returned (.tuple #[lv, .int .i64 zn]) ∧ w'.ownsRow w.heap.size 5 1 lv zl.length (Bs zl)) ∧ Below w.heap.size w w' := by
  obtain ⟨p, c, q, m, rfl, _⟩ := hd.parts
  have hb3 : Below w.heap.size w (((w.alloc (.cells #[.int .i64 count, .slice p data.length c, .slice q ws.length m] 25)).alloc (.cells #[.int .i64 0] 26)).alloc (.cells #[.nilIface] 76)) := ((below_alloc w _).alloc (by simp) _).alloc (by simp; omega) _
  have hgt := get_any _ name count data ws (((w.alloc (.cells #[.int .i64 count, .slice p data.length c, .slice q ws.length m] 25)).alloc (.cells #[.int .i64 0] 26)).alloc (.cells #[.nilIface] 76)) (hL.below hb3) (hd.below hb3) hs r n hm
  rw [hz] at hgt
  have HG : Hid (ErrT w) := hL.err
  have hmf : ∀ (fn : Fn) (first cap : Array Value) (w : World), (Instr.makeFunc fn first cap).run Tryz.prog w = .ok (.func fn first cap) w := fun _ _ _ _ => rfl
  have hdk : (((w.alloc (.cells #[.int .i64 count, .slice p data.length c, .slice q ws.length m] 25)).alloc (.cells #[.int .i64 0] 26)).alloc (.cells #[.nilIface] 76)).heap[w.heap.size]? = some (.cells #[.int .i64 count, .slice p data.length c, .slice q ws.length m] 25 (0, 0)) := by
    have h1 := heap_alloc_new w (.cells #[.int .i64 count, .slice p data.length c, .slice q ws.length m] 25)
    have h2 := ((below_alloc (w.alloc (.cells #[.int .i64 count, .slice p data.length c, .slice q ws.length m] 25)) (.cells #[.int .i64 0] 26)).block _ (by simp)).trans h1
    exact ((below_alloc ((w.alloc (.cells #[.int .i64 count, .slice p data.length c, .slice q ws.length m] 25)).alloc (.cells #[.int .i64 0] 26)) (.cells #[.nilIface] 76)).block _ (by simp; omega)).trans h2
  obtain ⟨c0, c1, c2⟩ := three_cells hdk
  clear hL hd hm hdk hz
  go_enter_defers Tryz.func44, Tryz.ntmps44
  go_wp2_with fail
  refine hgt.mono ?_
  rintro e w1 ⟨lv, ev, rfl, hown, herr, hbb⟩
  have hs1 := hbb.size
  simp at hs1
  obtain ⟨ce, cr, fe, fr⟩ := vars2 (a := .int .i64 0) (b := .nilIface) (s := 26) (t := 76) (w.alloc (.cells #[.int .i64 count, .slice p data.length c, .slice q ws.length m] 25)) w1 hbb
  simp only [heap_size_alloc] at ce cr fe fr
  have HB : Hid (Below w.heap.size w w1) := hb3.trans (hbb.mono hb3.size)
  have HE : Hid (ErrV ev zn) := herr
  simp only [heap_size_alloc] at hown
  have HO : Hid (w1.ownsRow (w.heap.size + 1 + 1 + 1) 5 1 lv zl.length (Bs zl)) := hown
  clear hbb hgt hb3 c0 c1 c2 hown
  rcases herr with ⟨_, rfl⟩ | ⟨_, hfl⟩
  · skip
    have hoW : ((w1.setCell ⟨w.heap.size + 1 + 1, 0, none⟩ .nilIface).setCell ⟨w.heap.size + 1, 0, none⟩ (.int .i64 0)).ownsRow (w.heap.size + 1 + 1 + 1) 5 1 lv zl.length (Bs zl) := ownsRow_setCell_below (ownsRow_setCell_below HO.out (a := ⟨w.heap.size + 1 + 1, 0, none⟩) (by simp) _) (a := ⟨w.heap.size + 1, 0, none⟩) (by simp) _
    have HOW : Hid (((w1.setCell ⟨w.heap.size + 1 + 1, 0, none⟩ .nilIface).setCell ⟨w.heap.size + 1, 0, none⟩ (.int .i64 0)).ownsRow (w.heap.size + 1 + 1 + 1) 5 1 lv zl.length (Bs zl)) := hoW
    obtain ⟨lq, lm, hlv, _, _, _⟩ := own_form HO.out
    subst hlv
    have hdoor := doorV (A := ⟨w.heap.size + 1 + 1, 0, none⟩) (E := ⟨w.heap.size + 1, 0, none⟩) (by simp) cr ce fr fe (ev := .nilIface)
    have HDR : Hid (((w1.setCell ⟨w.heap.size + 1 + 1, 0, none⟩ .nilIface).setCell ⟨w.heap.size + 1, 0, none⟩ (.int .i64 0)).cell? ⟨w.heap.size + 1 + 1, 0, none⟩ = some .nilIface ∧ ((w1.setCell ⟨w.heap.size + 1 + 1, 0, none⟩ .nilIface).setCell ⟨w.heap.size + 1, 0, none⟩ (.int .i64 0)).cell? ⟨w.heap.size + 1, 0, none⟩ = some (.int .i64 0) ∧ ((w1.setCell ⟨w.heap.size + 1 + 1, 0, none⟩ .nilIface).setCell ⟨w.heap.size + 1, 0, none⟩ (.int .i64 0)).frozen? ⟨w.heap.size + 1, 0, none⟩ = false) := hdoor
    obtain ⟨ZL, hZL⟩ : ∃ ZL, zl.length = ZL := ⟨_, rfl⟩
    have HZL : Hid (zl.length = ZL) := hZL
    rw [hZL] at HO HOW ⊢
    clear hdoor hoW hZL
    go_wp2
    obtain ⟨g1, g2, g3⟩ := HDR.out
    have hbW : Below w.heap.size w ((w1.setCell ⟨w.heap.size + 1 + 1, 0, none⟩ .nilIface).setCell ⟨w.heap.size + 1, 0, none⟩ (.int .i64 0)) := (HB.out.setCell (by simp; omega) _).setCell (by simp) _
    have hoW := HOW.out
    clear HOW HDR
    generalize ((w1.setCell ⟨w.heap.size + 1 + 1, 0, none⟩ .nilIface).setCell ⟨w.heap.size + 1, 0, none⟩ (.int .i64 0)) = W at *
    refine leaves_cons (f := 77) (args := #[.pointer (some ⟨w.heap.size + 1 + 1, 0, none⟩), .pointer (some ⟨w.heap.size + 1, 0, none⟩)]) (by simp) (by simp [go_sem]) ?_
    refine (getD4 ⟨w.heap.size + 1 + 1, 0, none⟩ ⟨w.heap.size + 1, 0, none⟩ .nilIface (.int .i64 0) zn .returning _ (HG.out.below hbW) HE.out g1 g2 g3).mono ?_
    rintro e u' w'' ⟨rfl, rfl, w3, rfl, hb3⟩
    have hltE := World.block_lt_of_cell? _ _ g2
    have k1 : (w3.setCell ⟨w.heap.size + 1, 0, none⟩ (.int .i64 zn)).cell? ⟨w.heap.size + 1, 0, none⟩ = some (.int .i64 zn) := World.cell?_setCell_same _ _ _ ((hb3.cell hltE).trans g2)
    have k2 : Below w.heap.size w (w3.setCell ⟨w.heap.size + 1, 0, none⟩ (.int .i64 zn)) := (hbW.trans (hb3.mono hbW.size)).setCell (by simp) _
    have k3 := ownsRow_setCell_below (own_below hoW hb3) (a := ⟨w.heap.size + 1, 0, none⟩) (by simp) (.int .i64 zn)
    generalize w3.setCell ⟨w.heap.size + 1, 0, none⟩ (.int .i64 zn) = w4 at *
    simp [Leaves, settle, results, Tryz.results44, go_sem, k1]
    exact ⟨by rw [HZL.out]; exact own_mono k3 (by omega), k2⟩
  · obtain ⟨tx, vx, rfl⟩ := hfl.iface
    clear hfl
    have hoW : ((w1.setCell ⟨w.heap.size + 1 + 1, 0, none⟩ (.iface tx vx)).setCell ⟨w.heap.size + 1, 0, none⟩ (.int .i64 0)).ownsRow (w.heap.size + 1 + 1 + 1) 5 1 lv zl.length (Bs zl) := ownsRow_setCell_below (ownsRow_setCell_below HO.out (a := ⟨w.heap.size + 1 + 1, 0, none⟩) (by simp) _) (a := ⟨w.heap.size + 1, 0, none⟩) (by simp) _
    have HOW : Hid (((w1.setCell ⟨w.heap.size + 1 + 1, 0, none⟩ (.iface tx vx)).setCell ⟨w.heap.size + 1, 0, none⟩ (.int .i64 0)).ownsRow (w.heap.size + 1 + 1 + 1) 5 1 lv zl.length (Bs zl)) := hoW
    obtain ⟨lq, lm, hlv, _, _, _⟩ := own_form HO.out
    subst hlv
    have hdoor := doorV (A := ⟨w.heap.size + 1 + 1, 0, none⟩) (E := ⟨w.heap.size + 1, 0, none⟩) (by simp) cr ce fr fe (ev := (.iface tx vx))
    have HDR : Hid (((w1.setCell ⟨w.heap.size + 1 + 1, 0, none⟩ (.iface tx vx)).setCell ⟨w.heap.size + 1, 0, none⟩ (.int .i64 0)).cell? ⟨w.heap.size + 1 + 1, 0, none⟩ = some (.iface tx vx) ∧ ((w1.setCell ⟨w.heap.size + 1 + 1, 0, none⟩ (.iface tx vx)).setCell ⟨w.heap.size + 1, 0, none⟩ (.int .i64 0)).cell? ⟨w.heap.size + 1, 0, none⟩ = some (.int .i64 0) ∧ ((w1.setCell ⟨w.heap.size + 1 + 1, 0, none⟩ (.iface tx vx)).setCell ⟨w.heap.size + 1, 0, none⟩ (.int .i64 0)).frozen? ⟨w.heap.size + 1, 0, none⟩ = false) := hdoor
    obtain ⟨ZL, hZL⟩ : ∃ ZL, zl.length = ZL := ⟨_, rfl⟩
    have HZL : Hid (zl.length = ZL) := hZL
    rw [hZL] at HO HOW ⊢
    clear hdoor hoW hZL
    go_wp2
    obtain ⟨g1, g2, g3⟩ := HDR.out
    have hbW : Below w.heap.size w ((w1.setCell ⟨w.heap.size + 1 + 1, 0, none⟩ (.iface tx vx)).setCell ⟨w.heap.size + 1, 0, none⟩ (.int .i64 0)) := (HB.out.setCell (by simp; omega) _).setCell (by simp) _
    have hoW := HOW.out
    clear HOW HDR
    generalize ((w1.setCell ⟨w.heap.size + 1 + 1, 0, none⟩ (.iface tx vx)).setCell ⟨w.heap.size + 1, 0, none⟩ (.int .i64 0)) = W at *
    refine leaves_cons (f := 77) (args := #[.pointer (some ⟨w.heap.size + 1 + 1, 0, none⟩), .pointer (some ⟨w.heap.size + 1, 0, none⟩)]) (by simp) (by simp [go_sem]) ?_
    refine (getD4 ⟨w.heap.size + 1 + 1, 0, none⟩ ⟨w.heap.size + 1, 0, none⟩ (.iface tx vx) (.int .i64 0) zn .returning _ (HG.out.below hbW) HE.out g1 g2 g3).mono ?_
    rintro e u' w'' ⟨rfl, rfl, w3, rfl, hb3⟩
    have hltE := World.block_lt_of_cell? _ _ g2
    have k1 : (w3.setCell ⟨w.heap.size + 1, 0, none⟩ (.int .i64 zn)).cell? ⟨w.heap.size + 1, 0, none⟩ = some (.int .i64 zn) := World.cell?_setCell_same _ _ _ ((hb3.cell hltE).trans g2)
    have k2 : Below w.heap.size w (w3.setCell ⟨w.heap.size + 1, 0, none⟩ (.int .i64 zn)) := (hbW.trans (hb3.mono hbW.size)).setCell (by simp) _
    have k3 := ownsRow_setCell_below (own_below hoW hb3) (a := ⟨w.heap.size + 1, 0, none⟩) (by simp) (.int .i64 zn)
    generalize w3.setCell ⟨w.heap.size + 1, 0, none⟩ (.int .i64 zn) = w4 at *
    simp [Leaves, settle, results, Tryz.results44, go_sem, k1]
    exact ⟨by rw [HZL.out]; exact own_mono k3 (by omega), k2⟩
end Go.Proofs.YtiakfdhbbkpfhaaGreatDoor
