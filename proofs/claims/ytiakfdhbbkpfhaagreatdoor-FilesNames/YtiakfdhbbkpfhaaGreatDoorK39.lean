/-
  The law FilesNames walked.
-/
import Derived.Test.YtiakfdhbbkpfhaaGreatDoorK38
import Derived.Test.YtiakfdhbbkpfhaaGreatDoorJ28
namespace Go.Proofs.YtiakfdhbbkpfhaaGreatDoor
open Go.RowKit Go.WideShapes Rm

/-- The blocks of a world from a number on are as they were. -/
structure Sm (lo : Nat) (a w' : World) : Prop where
  same : ∀ k, lo ≤ k → k < a.heap.size → w'.heap[k]? = a.heap[k]?
theorem Sm.refl (lo : Nat) (a : World) : Sm lo a a := ⟨fun _ _ _ => rfl⟩
theorem Sm.next {lo : Nat} {a w' w'' : World} (h : Sm lo a w') (hb : Below w'.heap.size w' w'') : Sm lo a w'' := ⟨fun k h1 h2 => by
  have e := h.same k h1 h2
  have e2 : w'.heap[k]? = some a.heap[k] := e.trans (Array.getElem?_eq_getElem h2)
  exact (hb.block k (lt_heap e2)).trans e⟩
theorem Sm.set {lo : Nat} {a w' : World} (h : Sm lo a w') {B : Nat} (hB : a.heap.size ≤ B ∨ B < lo) (i : Nat) (v : Value) : Sm lo a (w'.setCell ⟨B, i, none⟩ v) := ⟨fun k h1 h2 => (set_keep (by omega)).trans (h.same k h1 h2)⟩
theorem Sm.box {lo : Nat} {a w' : World} (h : Sm lo a w') {B : Nat} {o : Obj} (hB : lo ≤ B) (hb : a.heap[B]? = some o) : w'.heap[B]? = some o := (h.same B hB (lt_heap hb)).trans hb
theorem Sm.disk {lo base : Nat} {a w' : World} (h : Sm lo a w') (hl : lo ≤ base) {v : Value} {count : Int} {data : List Nat} {ws : Puts} (hd : DiskF base a v count data ws) : DiskIn w' v count data ws := hd w' (fun k h1 h2 => h.same k (by omega) h2)
theorem DiskF.alloc {base : Nat} {w : World} {v : Value} {count : Int} {data : List Nat} {ws : Puts} (h : DiskF base w v count data ws) (o : Obj) : DiskF base (w.alloc o) v count data ws := fun w2 h2 => h w2 (fun k h1 h3 => (h2 k h1 (by simp; omega)).trans ((below_alloc w o).block k h3))
/-- What the first turn of the examples answers. -/
structure TurnA (w : World) (D : List Nat) (e : Ending) (w' : World) : Prop where
  ex : ∃ aq am A, e = .returned (.tuple #[.slice aq 12 am, .int .i64 0]) ∧ TurnIs 100 D [] (some (emptyD, 0)) 0 [aFile 130] 0 A ∧ A.length = 12 ∧ 12 ≤ am ∧ am ≤ maxLen ∧ ActsIn w' aq A ∧ Below w.heap.size w w'
theorem turn_a (v : Value) (D : List Nat) (g : Nat) (w : World) (hL : Laid w) (hD : FmtIs 100 D) (hd : DiskIn w v 100 D []) (h : w.heap[g]? = some (.cells #[.string aName, .string (textS 130), .bool false] 40 (0, 0))) :
    Calls Tryz.prog 12 #[v, .slice (some ⟨g, 0, none⟩) 1 1] w fun e w' => TurnA w D e w' := by
  have hm : MountIs 100 D [] (some (emptyD, 0)) 0 := fmt_mount (n := 100) (by decide) (by decide) hD
  refine (Turn_any v 100 D [] (some ⟨g, 0, none⟩) 1 1 [aFile 130] w hL hd _ 0 hm (chg_a 130 h) (fun y hy => ?_)).mono ?_
  · rw [List.mem_singleton.1 hy]
    show ((textS 130).size : Int) ≤ _
    rw [textS_size]
    decide
  · rintro e w' ⟨m, A, av, L, hS, rfl, hown, hLA, hb⟩
    obtain ⟨hm0, _⟩ := alive_turn hD hS
    subst hm0
    obtain ⟨z, hA, _⟩ := a_turn hD hS
    have hl : A.length = 12 := by rw [hA]; exact a_acts12 z
    obtain ⟨aq, am, rfl, _, _, _⟩ := hown.form
    have hLl : L.length = 12 := by rw [← hl, ← hLA, List.length_map]
    have hlies := hown.lies
    rw [hLl] at hlies ⊢
    exact ⟨⟨aq, am, A, rfl, hS, hl, hlies.2.2.1, hlies.2.2.2, by rw [← hLA]; exact hlies.2.1, hb⟩⟩
/-- Turn with changes that are wrong. -/
theorem turn_wrong (v : Value) (D : List Nat) (lq : Option Addr) (ln lc : Nat) (l : List CV) (E : Int) (w : World) (hL : Laid w) (hD : FmtIs 100 D) (hd : DiskIn w v 100 D []) (hl : ChgIn w lq ln lc l) (hv : ∀ y ∈ l, (y.val.size : Int) ≤ 9223372036854775000) (hE : ∀ m A, TurnIs 100 D [] (some (emptyD, 0)) 0 l m A → m = E) :
    Calls Tryz.prog 12 #[v, .slice lq ln lc] w fun e w' => ∃ av : Value, e = .returned (.tuple #[av, .int .i64 E]) ∧ Below w.heap.size w w' := by
  have hm : MountIs 100 D [] (some (emptyD, 0)) 0 := fmt_mount (n := 100) (by decide) (by decide) hD
  refine (Turn_any v 100 D [] lq ln lc l w hL hd _ 0 hm hl hv).mono ?_
  rintro e w' ⟨m, A, av, L, hS, rfl, hown, hLA, hb⟩
  obtain rfl := hE m A hS
  exact ⟨av, rfl, hb⟩
theorem chg_one {w : World} {g : Nat} {k v : ByteArray} {b : Bool} (hk : (k.size : Int) ≤ 9223372036854775807) (h : w.heap[g]? = some (.cells #[.string k, .string v, .bool b] 40 (0, 0))) : ChgIn w (some ⟨g, 0, none⟩) 1 1 [⟨k, v, b⟩] := by
  obtain ⟨c0, c1, c2⟩ := three_cells h
  refine ⟨fun _ => ⟨g, 0, rfl, fun i hi => ?_⟩, rfl, Nat.le_refl _, by decide, fun y hy => ?_⟩
  · obtain rfl : i = 0 := by simp at hi; exact hi
    exact ⟨c0, c1, c2⟩
  · rw [List.mem_singleton.1 hy]
    exact hk
theorem chg_two {w : World} {g : Nat} {k v k2 v2 : ByteArray} {b b2 : Bool} (hk : (k.size : Int) ≤ 9223372036854775807) (hk2 : (k2.size : Int) ≤ 9223372036854775807) (h : w.heap[g]? = some (.cells #[.string k, .string v, .bool b, .string k2, .string v2, .bool b2] 40 (0, 0))) : ChgIn w (some ⟨g, 0, none⟩) 2 2 [⟨k, v, b⟩, ⟨k2, v2, b2⟩] := by
  refine ⟨fun _ => ⟨g, 0, rfl, fun i hi => ?_⟩, rfl, Nat.le_refl _, by decide, fun y hy => ?_⟩
  · rcases i with _ | _ | i
    · exact ⟨Lib.cell_of_heap h 0, Lib.cell_of_heap h 1, Lib.cell_of_heap h 2⟩
    · exact ⟨Lib.cell_of_heap h 3, Lib.cell_of_heap h 4, Lib.cell_of_heap h 5⟩
    · simp only [List.length_cons, List.length_nil] at hi
      omega
  · rcases List.mem_cons.1 hy with rfl | hy
    · exact hk
    · rw [List.mem_singleton.1 hy]
      exact hk2
theorem e3_vals : ∀ y ∈ ([⟨aName, ⟨#[]⟩, false⟩, ⟨aName, ⟨#[]⟩, false⟩] : List CV), (y.val.size : Int) ≤ 9223372036854775000 := by
  intro y hy
  rcases List.mem_cons.1 hy with rfl | hy
  · decide
  · rw [List.mem_singleton.1 hy]; decide
/-- What the second turn of the examples answers. -/
structure TdB (w : World) (e : Ending) (w' : World) : Prop where
  ex : ∃ q1 n1 m1 q2 n2 m2 D3, e = .returned (.tuple #[.agg #[.int .i64 100, .slice q1 n1 m1, .slice q2 n2 m2], .int .i64 0]) ∧ Below w.heap.size w w' ∧ DiskF w.heap.size w' (.agg #[.int .i64 100, .slice q1 n1 m1, .slice q2 n2 m2]) 100 D3 [] ∧ MountIs 100 D3 [] (some (dirB, 0)) 0
theorem turned_b (v : Value) (D2 : List Nat) (g : Nat) (w : World) (hL : Laid w) (hm : MountIs 100 D2 [] (some (dirA, 8)) 0) (ho : Okay 100 D2 []) (hs : slotK D2 [] 0 8 = bytesN emptyD) (hd : DiskIn w v 100 D2 []) (h : w.heap[g]? = some (.cells #[.string aName, .string ⟨#[]⟩, .bool true, .string bName, .string ⟨#[]⟩, .bool false] 40 (0, 0))) :
    Calls Tryz.prog 16 #[v, .slice (some ⟨g, 0, none⟩) 2 2] w fun e w' => TdB w e w' := by
  refine (turned_any v 100 D2 [] (some ⟨g, 0, none⟩) 2 2 chgAB w hL hd _ 0 hm (chg_two (by decide) (by decide) h) (fun y hy => ?_)).mono ?_
  · rcases List.mem_cons.1 hy with rfl | hy
    · decide
    · rw [List.mem_singleton.1 hy]; decide
  · rintro e w' ⟨m, A, c0, q1, n1, m1, q2, n2, m2, E, hS, rfl, hb, hc⟩
    obtain ⟨rfl, D3, hdo, hm3⟩ := b_turn ho hm hs hS
    rcases hc with ⟨h0, _⟩ | ⟨_, hE, hdi⟩
    · exact absurd rfl h0
    · rw [hdo] at hE hdi
      simp only [resE, resC, resD, resW] at hE hdi
      subst hE
      have hc0 : c0 = 100 := by
        obtain ⟨_, _, _, _, e, _⟩ := hdi.self.parts
        simp only [Value.agg.injEq] at e
        have := congrArg (fun a : Array Value => a[0]?) e
        simpa using this
      subst hc0
      exact ⟨⟨q1, n1, m1, q2, n2, m2, D3, rfl, hb, hdi, hm3⟩⟩
theorem fown_at {w : World} {base : Nat} {q : Option Addr} {n m : Nat} {ls : FPs} {x : DirV} (h : FOwn w base (.slice q n m) ls) (hm : May ltS x) (hl : ls.map Prod.fst = x.files) : FilesIn w q x.files := by
  obtain ⟨q', c', e, hq, _⟩ := (h.files hm hl).lies
  simp only [Value.slice.injEq] at e
  rw [e.1]
  exact hq
set_option maxRecDepth 20000 in
set_option maxHeartbeats 12000000 in
theorem law_names (w : World) (hL : Laid w) : Calls Tryz.prog 3 #[] w fun e w' => e = .returned (.bool true) ∧ Below w.heap.size w w' := by
  have HL : Hid (Laid w) := hL
  have hf := Format_ok 100 w hL (by decide) (by decide)
  clear hL
  go_enter Tryz.func3, Tryz.ntmps3
  go_wp2_with fail
  refine hf.mono ?_
  rintro e w1 ⟨v1, D, rfl, hD, hF1, hb1⟩
  obtain ⟨p, c, q, m, hv1, _⟩ := hF1.self.parts
  subst hv1
  simp only [List.length_nil] at hF1 ⊢
  obtain ⟨dl, hdl⟩ : ∃ k, D.length = k := ⟨_, rfl⟩
  rw [hdl] at hF1 ⊢
  obtain ⟨wB, hwB⟩ : ∃ wB, w1.alloc (.cells #[.int .i64 100, .slice p dl c, .slice q 0 m] 25) = wB := ⟨_, rfl⟩
  have HBB : Hid (Below w.heap.size w wB) := by show Below _ _ _; rw [← hwB]; exact below_bt hb1 (below_alloc _ _)
  have HBX : Hid (wB.heap[w1.heap.size]? = some (.cells #[.int .i64 100, .slice p dl c, .slice q 0 m] 25 (0, 0))) := by show _ = _; rw [← hwB]; exact heap_alloc_new _ _
  have HFB : Hid (DiskF w.heap.size wB (.agg #[.int .i64 100, .slice p dl c, .slice q 0 m]) 100 D []) := by show DiskF _ _ _ _ _ _; rw [← hwB]; exact hF1.alloc _
  have HSB : Hid (wB.heap.size = w1.heap.size + 1) := by show _ = _; rw [← hwB]; simp
  have HD : Hid (FmtIs 100 D) := hD
  have HMD : Hid (MountIs 100 D [] (some (emptyD, 0)) 0) := fmt_mount (n := 100) (by decide) (by decide) hD
  have HDI : Hid (∀ w', Sm 0 wB w' → DiskIn w' (.agg #[.int .i64 100, .slice p dl c, .slice q 0 m]) 100 D [] ∧ w'.cell? ⟨w1.heap.size, 0, none⟩ = some (.int .i64 100) ∧ w'.cell? ⟨w1.heap.size, 1, none⟩ = some (.slice p dl c) ∧ w'.cell? ⟨w1.heap.size, 2, none⟩ = some (.slice q 0 m)) := fun w' h => ⟨h.disk (by omega) HFB.out, three_cells (h.box (by omega) HBX.out)⟩
  clear hf hF1 hb1 hdl hD
  go_upto_region 2 with fail
  (try rw [hwB])
  clear hwB
  obtain ⟨i0, x0, x1, x2⟩ := HDI.out wB (Sm.refl _ _)
  have hmt := Mount_any _ 100 D [] wB (HL.out.below HBB.out) i0 _ 0 HMD.out
  go_wp2_with fail
  refine hmt.mono ?_
  rintro e w2 ⟨ls, lv, _, hls, rfl, hfo, hb2⟩
  obtain ⟨q2, m2, rfl, _⟩ := hfo.form
  have hls0 : ls.length = 0 := by have := congrArg List.length hls; simpa [emptyD] using this
  rw [hls0]
  obtain ⟨wC, hwC⟩ : ∃ wC, w2.alloc (.cells #[.int .i64 emptyD.gen, .slice q2 0 m2] 31) = wC := ⟨_, rfl⟩
  have HSC : Hid (Sm 0 wB wC ∧ Below w.heap.size w wC) := by
    show _ ∧ _
    rw [← hwC]
    exact ⟨(Sm.refl 0 wB).next (below_bt hb2 (below_alloc _ _)), below_bt HBB.out (below_bt hb2 (below_alloc _ _))⟩
  have HMC : Hid (wC.heap[w2.heap.size]? = some (.cells #[.int .i64 1, .slice q2 0 m2] 31 (0, 0))) := by show _ = _; rw [← hwC]; exact heap_alloc_new _ _
  have HBM : Hid (wB.heap.size ≤ w2.heap.size ∧ wC.heap.size = w2.heap.size + 1) := by show _ ∧ _; rw [← hwC]; exact ⟨hb2.size, by simp⟩
  clear hmt hls hfo hb2 hls0 i0 x0 x1 x2
  go_upto_region 3 with fail
  (try rw [hwC])
  clear hwC
  obtain ⟨i0, x0, x1, x2⟩ := HDI.out wC HSC.out.1
  have hrm := Room_any _ 100 D [] wC (HL.out.below HSC.out.2) i0 _ 0 HMD.out
  rw [a_room] at hrm
  go_wp2_with fail
  refine hrm.mono ?_
  rintro e w3 ⟨rfl, hb3⟩
  have HC3 : Hid (Below wC.heap.size wC w3) := hb3
  clear hrm hb3 i0 x0 x1 x2
  have hfb := Format_bad 95 w3 (HL.out.below (below_bt HSC.out.2 HC3.out)) (by decide)
  go_wp2_with fail
  refine hfb.mono ?_
  rintro e w4 ⟨rfl, hb4⟩
  have HC4a : Hid (Below wC.heap.size wC (w4.alloc (.cells #[.int .i64 0, .slice none 0 0, .slice none 0 0] 25))) := below_bt HC3.out (below_bt hb4 (below_alloc _ _))
  clear hfb hb4
  go_upto_region 5 with fail
  obtain ⟨w4a, hw4a⟩ : ∃ w4a, w4.alloc (.cells #[.int .i64 0, .slice none 0 0, .slice none 0 0] 25) = w4a := ⟨_, rfl⟩
  have HC4 : Hid (Below wC.heap.size wC w4a) := by show Below _ _ _; rw [← hw4a]; exact HC4a.out
  rw [hw4a]
  clear hw4a HC4a
  have hnw := new_ok 100 w4a (by decide) (by decide)
  go_wp2_with fail
  refine hnw.mono ?_
  rintro e w5 ⟨vz, rfl, hn5, hb5⟩
  have hF5 := hn5.fresh (zeros_okay (n := 100) (by decide) (by decide))
  have hI5 := hF5.self
  obtain ⟨pz, cz, qz, mz, rfl, _⟩ := hI5.parts
  simp only [List.length_nil] at hF5 ⊢
  obtain ⟨zl, hzl⟩ : ∃ k, (List.replicate (100 * 128) 0).length = k := ⟨_, rfl⟩
  rw [hzl] at hF5 ⊢
  obtain ⟨w5a, hw5a⟩ : ∃ w5a, w5.alloc (.cells #[.int .i64 100, .slice pz zl cz, .slice qz 0 mz] 25) = w5a := ⟨_, rfl⟩
  have HC5 : Hid (Below wC.heap.size wC w5a) := by show Below _ _ _; rw [← hw5a]; exact below_bt HC4.out (below_bt hb5 (below_alloc _ _))
  have HZ5 : Hid (w5a.heap[w5.heap.size]? = some (.cells #[.int .i64 100, .slice pz zl cz, .slice qz 0 mz] 25 (0, 0))) := by show _ = _; rw [← hw5a]; exact heap_alloc_new _ _
  have HI5 : Hid (DiskIn w5a (.agg #[.int .i64 100, .slice pz zl cz, .slice qz 0 mz]) 100 (List.replicate (100 * 128) 0) []) := by show DiskIn _ _ _ _ _; rw [← hw5a]; exact hF5.below (below_alloc _ _)
  clear hnw hn5 hF5 hI5 hb5 hzl
  go_upto_region 6 with fail
  (try rw [hw5a])
  clear hw5a
  obtain ⟨z0, z1, z2⟩ := three_cells HZ5.out
  have hmz := Mount_any _ 100 (List.replicate (100 * 128) 0) [] w5a (HL.out.below (below_bt HSC.out.2 HC5.out)) HI5.out _ 40 zero_mount
  go_wp2_with fail
  refine hmz.mono ?_
  rintro e w6 ⟨rfl, hb6⟩
  have HC7a : Hid (Below wC.heap.size wC (w6.alloc (.cells #[.int .i64 0, .slice none 0 0] 31))) := below_bt HC5.out (below_bt hb6 (below_alloc _ _))
  clear hmz hb6 z0 z1 z2 HI5 HZ5 HC5 HC4 HC3
  go_upto_region 7 with fail
  obtain ⟨w7, hw7⟩ : ∃ w7, w6.alloc (.cells #[.int .i64 0, .slice none 0 0] 31) = w7 := ⟨_, rfl⟩
  have HC7 : Hid (Below wC.heap.size wC w7) := by show Below _ _ _; rw [← hw7]; exact HC7a.out
  rw [hw7]
  clear hw7 HC7a
  have HS7 : Hid (Sm 0 wB w7 ∧ Below w.heap.size w w7) := ⟨HSC.out.1.next HC7.out, below_bt HSC.out.2 HC7.out⟩
  have HM7 : Hid (w7.heap[w2.heap.size]? = some (.cells #[.int .i64 1, .slice q2 0 m2] 31 (0, 0))) := (HC7.out.block _ (lt_heap HMC.out)).trans HMC.out
  obtain ⟨y0, y1⟩ := two_cells HM7.out
  have HT : Hid (∀ w' g, Below w7.heap.size w7 w' → w'.heap[g]? = some (.cells #[.string ⟨#[97]⟩, .string (textS 130), .bool false] 40 (0, 0)) → Calls Tryz.prog 12 #[.agg #[.int .i64 100, .slice p dl c, .slice q 0 m], .slice (some ⟨g, 0, none⟩) 1 1] w' fun e w'' => TurnA w' D e w'') := fun w' g hb hg => turn_a _ D g w' (HL.out.below (below_bt HS7.out.2 hb)) HD.out (HDI.out w' (HS7.out.1.next hb)).1 hg
  have HTX : Hid (∀ w', Calls Tryz.prog 14 #[.int .i64 130] w' fun e w'' => e = .returned (.string (textS 130)) ∧ Below w'.heap.size w' w'') := fun w' => text_t 130 w' (by decide)
  have HKS : Hid (∀ w', Below w7.heap.size w7 w' → (w'.cell? ⟨w1.heap.size, 0, none⟩ = some (.int .i64 100) ∧ w'.cell? ⟨w1.heap.size, 1, none⟩ = some (.slice p dl c) ∧ w'.cell? ⟨w1.heap.size, 2, none⟩ = some (.slice q 0 m)) ∧ Below w7.heap.size w7 w') := fun w' hb => ⟨(HDI.out w' (HS7.out.1.next hb)).2, hb⟩
  go_upto_region 8 with fail
  clear y0 y1
  obtain ⟨⟨x0, x1, x2⟩, _⟩ := HKS.out w7 (Below.refl _ _)
  go_region_held3 (fun w' => (w'.cell? ⟨w1.heap.size, 0, none⟩ = some (.int .i64 100) ∧ w'.cell? ⟨w1.heap.size, 1, none⟩ = some (.slice p dl c) ∧ w'.cell? ⟨w1.heap.size, 2, none⟩ = some (.slice q 0 m)) ∧ Below w7.heap.size w7 w')
    (with_reducible first | exact HKS.out _ (Below.refl _ _).drew | exact HKS.out _ (Below.refl _ _) | exact HKS.out _ hB10 | exact HKS.out _ hB9 | exact HKS.out _ (below_bt hB9 (below_alloc _ _)) | exact HKS.out _ hB8 | assumption)
    (first
    | (go_at_call 14; refine (HTX.out _).mono ?_; rintro e w8 ⟨rfl, hb8⟩; have hB8 : Below w7.heap.size w7 w8 := (by first | exact hb8 | exact below_drC hb8))
    | (go_at_call 13; refine (put_t _ _ _).mono ?_; rintro e w9 ⟨rfl, hb9⟩; have hB9 : Below w7.heap.size w7 w9 := below_bt hB8 (by first | exact hb9 | exact below_drC hb9))
    | (go_at_call 12; refine (HT.out _ _ (below_bt hB9 (below_alloc _ _)) (heap_alloc_new _ _)).mono ?_; rintro e w10 ⟨aq, am, A, rfl, hS, hAl, ham, hamx, hacts, hb10⟩; have hB10 : Below w7.heap.size w7 w10 := below_bt hB9 (below_bt (below_alloc _ _) hb10))
    | fail)
  rename_i hh
  have HS10 : Hid (Sm 0 wB w10 ∧ Below w.heap.size w w10) := ⟨HS7.out.1.next hB10, below_bt HS7.out.2 hB10⟩
  have HM10 : Hid (w10.heap[w2.heap.size]? = some (.cells #[.int .i64 1, .slice q2 0 m2] 31 (0, 0))) := (hB10.block _ (lt_heap HM7.out)).trans HM7.out
  obtain ⟨z, hA, D2, hdo, hok2, hmt2, hsl2⟩ := a_turn HD.out hS
  obtain ⟨ab, ao, rfl⟩ := hacts.addr (by omega)
  have a0 : w10.cell? ⟨ab, ao + 1, none⟩ = some (.int .i64 80) := by have h := (hacts.at (k := 0) (by omega)).2.1; rw [hA] at h; exact h
  have a1 : w10.cell? ⟨ab, ao + 4, none⟩ = some (.int .i64 81) := by have h := (hacts.at (k := 1) (by omega)).2.1; rw [hA] at h; exact h
  have a2 : w10.cell? ⟨ab, ao + 6, none⟩ = some (.bool true) := by have h := (hacts.at (k := 2) (by omega)).1; rw [hA] at h; exact h
  have a3 : w10.cell? ⟨ab, ao + 10, none⟩ = some (.int .i64 8) := by have h := (hacts.at (k := 3) (by omega)).2.1; rw [hA] at h; exact h
  have a10 : w10.cell? ⟨ab, ao + 31, none⟩ = some (.int .i64 15) := by have h := (hacts.at (k := 10) (by omega)).2.1; rw [hA] at h; exact h
  have a11 : w10.cell? ⟨ab, ao + 33, none⟩ = some (.bool true) := by have h := (hacts.at (k := 11) (by omega)).1; rw [hA] at h; exact h
  have HAC : Hid (doAny 100 D [] A = .ok (D2, []) ∧ A.length = 12 ∧ ActsIn w10 (some ⟨ab, ao, none⟩) A) := ⟨hdo, hAl, hacts⟩
  have HM2 : Hid (MountIs 100 D2 [] (some (dirA, 8)) 0 ∧ Okay 100 D2 [] ∧ slotK D2 [] 0 8 = bytesN emptyD) := ⟨hmt2, hok2, hsl2⟩
  have ham1 : (12 : Int) ≤ (am : Int) := by omega
  have ham2 : (am : Int) ≤ 9223372036854775807 := by unfold maxLen at hamx; omega
  clear hh hB10 hb10 hB9 hb9 hB8 hb8 hS hA hdo hok2 hmt2 hsl2 hacts hAl hamx x0 x1 x2 HT HKS HC7
  obtain ⟨i0, x0, x1, x2⟩ := HDI.out w10 HS10.out.1
  have hdo2 := do_all _ 100 D [] w10 i0 (some ⟨ab, ao, none⟩) 12 am A HAC.out.2.1.symm HAC.out.2.2 (by rw [HAC.out.2.1]; decide) _ HAC.out.1
  simp only [resE, resC, resD, resW] at hdo2
  go_wp2_with fail
  refine hdo2.mono ?_
  rintro e w11 ⟨⟨v11, rfl, hF11⟩, hb11⟩
  have hI11 := hF11.self
  obtain ⟨pX, cX, qX, mX, rfl, _⟩ := hI11.parts
  obtain ⟨xl, hxl⟩ : ∃ k, D2.length = k := ⟨_, rfl⟩
  rw [hxl] at hF11 ⊢
  rw [List.length_nil] at hF11 ⊢
  obtain ⟨wX, hwX⟩ : ∃ wX, w11.alloc (.cells #[.int .i64 100, .slice pX xl cX, .slice qX 0 mX] 25) = wX := ⟨_, rfl⟩
  have HBX2 : Hid (Below w10.heap.size w10 wX) := by show Below _ _ _; rw [← hwX]; exact below_bt hb11 (below_alloc _ _)
  have HXX : Hid (wX.heap[w11.heap.size]? = some (.cells #[.int .i64 100, .slice pX xl cX, .slice qX 0 mX] 25 (0, 0)) ∧ w10.heap.size ≤ w11.heap.size) := by show _ ∧ _; rw [← hwX]; exact ⟨heap_alloc_new _ _, hb11.size⟩
  have HFX : Hid (DiskF w10.heap.size wX (.agg #[.int .i64 100, .slice pX xl cX, .slice qX 0 mX]) 100 D2 []) := by show DiskF _ _ _ _ _ _; rw [← hwX]; exact hF11.alloc _
  have HXI : Hid (∀ w', Sm w10.heap.size wX w' → DiskIn w' (.agg #[.int .i64 100, .slice pX xl cX, .slice qX 0 mX]) 100 D2 [] ∧ w'.cell? ⟨w11.heap.size, 0, none⟩ = some (.int .i64 100) ∧ w'.cell? ⟨w11.heap.size, 1, none⟩ = some (.slice pX xl cX) ∧ w'.cell? ⟨w11.heap.size, 2, none⟩ = some (.slice qX 0 mX)) := fun w' h => ⟨h.disk (Nat.le_refl _) HFX.out, three_cells (h.box HXX.out.2 HXX.out.1)⟩
  have HSX : Hid (Sm 0 wB wX ∧ Below w.heap.size w wX) := ⟨HS10.out.1.next HBX2.out, below_bt HS10.out.2 HBX2.out⟩
  have HMX : Hid (wX.heap[w2.heap.size]? = some (.cells #[.int .i64 1, .slice q2 0 m2] 31 (0, 0))) := (HBX2.out.block _ (lt_heap HM10.out)).trans HM10.out
  have HBM2 : Hid (w2.heap.size < w10.heap.size) := lt_heap HM10.out
  clear hdo2 hF11 hI11 hb11 hxl i0 x0 x1 x2 a0 a1 a2 a3 a10 a11 ham1 ham2 HAC
  go_upto_region 13 with fail
  (try rw [hwX])
  clear hwX
  obtain ⟨i0, x0, x1, x2⟩ := HXI.out wX (Sm.refl _ _)
  have hmx := Mount_any _ 100 D2 [] wX (HL.out.below HSX.out.2) i0 _ 0 HM2.out.1
  go_wp2_with fail
  refine hmx.mono ?_
  rintro e w12 ⟨ls, lv, _, hls, rfl, hfo, hb12⟩
  obtain ⟨q12, m12, rfl, hlm, hmx2, _⟩ := hfo.form
  have hls1 : ls.length = 1 := by have := congrArg List.length hls; simpa [dirA] using this
  have HFO : Hid (FOwn w12 wX.heap.size (.slice q12 1 m12) ls ∧ ls.map Prod.fst = dirA.files) := by show _ ∧ _; rw [← hls1]; exact ⟨hfo, hls⟩
  rw [hls1] at hlm ⊢
  have HM12 : Hid (w12.heap[w2.heap.size]? = some (.cells #[.int .i64 1, .slice q2 0 m2] 31 (0, 0))) := (hb12.block _ (lt_heap HMX.out)).trans HMX.out
  have HS12 : Hid (Sm 0 wB w12 ∧ Sm w10.heap.size wX w12 ∧ Below w.heap.size w w12) := ⟨HSX.out.1.next hb12, (Sm.refl _ _).next hb12, below_bt HSX.out.2 hb12⟩
  obtain ⟨y0, y1⟩ := two_cells HM12.out
  have f0 : w12.frozen? ⟨w2.heap.size, 0, none⟩ = false := by simp only [World.frozen?, HM12.out]; rfl
  have f1 : w12.frozen? ⟨w2.heap.size, 1, none⟩ = false := by simp only [World.frozen?, HM12.out]; rfl
  have HBX3 : Hid (w10.heap.size ≤ wX.heap.size) := HBX2.out.size
  clear hmx hls hfo hb12 hls1 i0 x0 x1 x2
  go_upto_region 14 with fail
  obtain ⟨W, hW⟩ : ∃ W, (w12.setCell ⟨w2.heap.size, 0, none⟩ (.int .i64 dirA.gen)).setCell ⟨w2.heap.size, 1, none⟩ (.slice q12 1 m12) = W := ⟨_, rfl⟩
  have HSW : Hid (Sm 0 wB W ∧ Sm w10.heap.size wX W ∧ Sm wX.heap.size w12 W ∧ Below w.heap.size w W) := by
    show _ ∧ _
    have h1 := HBM.out.1
    have h2 := HBM2.out
    have h3 := HBX3.out
    have h4 := HBB.out.size
    rw [← hW]
    exact ⟨(HS12.out.1.set (.inl h1) _ _).set (.inl h1) _ _, (HS12.out.2.1.set (.inr h2) _ _).set (.inr h2) _ _, ((Sm.refl _ _).set (.inr (by omega)) _ _).set (.inr (by omega)) _ _, set2_below HS12.out.2.2 (by omega) _ _⟩
  have HMW : Hid (W.heap[w2.heap.size]? = some (.cells #[.int .i64 2, .slice q12 1 m12] 31 (0, 0))) := by
    show _ = _
    rw [← hW]
    exact heap_setCell_same _ _ 1 _ _ _ (heap_setCell_same _ _ 0 _ _ _ HM12.out)
  rw [hW]
  clear hW y0 y1 f0 f1
  obtain ⟨i0, x0, x1, x2⟩ := HXI.out W HSW.out.2.1
  have hrx := Room_any _ 100 D2 [] W (HL.out.below HSW.out.2.2.2) i0 _ 0 HM2.out.1
  rw [b_room] at hrx
  go_wp2_with fail
  refine hrx.mono ?_
  rintro e w14 ⟨rfl, hb14⟩
  have HS14 : Hid (Sm 0 wB w14 ∧ Sm w10.heap.size wX w14 ∧ Below w.heap.size w w14) := ⟨HSW.out.1.next hb14, HSW.out.2.1.next hb14, below_bt HSW.out.2.2.2 hb14⟩
  have HM14 : Hid (w14.heap[w2.heap.size]? = some (.cells #[.int .i64 2, .slice q12 1 m12] 31 (0, 0))) := (hb14.block _ (lt_heap HMW.out)).trans HMW.out
  have hfi := fown_at (HFO.out.1.keepB (HSW.out.2.2.1.next hb14).same) (a_may : May ltS dirA) HFO.out.2
  obtain ⟨fb, fo, rfl⟩ := hfi.addr (by decide)
  obtain ⟨e0, e1, pv, e2, hp⟩ := hfi.at (k := 0) (by decide)
  obtain ⟨pq, pc, rfl, hpq, hpl, hpm, _⟩ := hp.lies
  obtain ⟨pb, po, rfl⟩ := hpq.addr (by decide)
  obtain ⟨g0, g1⟩ := hpq.at (k := 0) (by decide)
  have e0' : w14.cell? ⟨fb, fo, none⟩ = some (.string ⟨#[97]⟩) := e0
  have e1' : w14.cell? ⟨fb, fo + 1, none⟩ = some (.int .i64 130) := e1
  have e2' : w14.cell? ⟨fb, fo + 2, none⟩ = some (.slice (some ⟨pb, po, none⟩) 1 pc) := e2
  have g0' : w14.cell? ⟨pb, po, none⟩ = some (.int .i64 80) := g0
  have g1' : w14.cell? ⟨pb, po + 1, none⟩ = some (.int .i64 2) := g1
  have hpcI : (1 : Int) ≤ (pc : Int) := by have h : 1 ≤ pc := hpl; omega
  have hm1I : (1 : Int) ≤ (m12 : Int) := by omega
  obtain ⟨y0, y1⟩ := two_cells HM14.out
  clear hrx hb14 hfi e0 e1 e2 g0 g1 hp hpq hpl hpm i0 x0 x1 x2
  go_upto_region 16 with fail
  have HKS : Hid (∀ w', Below w14.heap.size w14 w' → (w'.cell? ⟨w11.heap.size, 0, none⟩ = some (.int .i64 100) ∧ w'.cell? ⟨w11.heap.size, 1, none⟩ = some (.slice pX xl cX) ∧ w'.cell? ⟨w11.heap.size, 2, none⟩ = some (.slice qX 0 mX)) ∧ Below w14.heap.size w14 w') := fun w' hb => ⟨(HXI.out w' (HS14.out.2.1.next hb)).2, hb⟩
  have HTD : Hid (∀ w' g, Below w14.heap.size w14 w' → w'.heap[g]? = some (.cells #[.string ⟨#[97]⟩, .string ⟨#[]⟩, .bool true, .string ⟨#[98]⟩, .string ⟨#[]⟩, .bool false] 40 (0, 0)) → Calls Tryz.prog 16 #[.agg #[.int .i64 100, .slice pX xl cX, .slice qX 0 mX], .slice (some ⟨g, 0, none⟩) 2 2] w' fun e w'' => TdB w' e w'') := fun w' g hb hg => turned_b _ D2 g w' (HL.out.below (below_bt HS14.out.2.2 hb)) HM2.out.1 HM2.out.2.1 HM2.out.2.2 (HXI.out w' (HS14.out.2.1.next hb)).1 hg
  clear y0 y1 e0' e1' e2' g0' g1' hpcI hm1I
  go_cut [20, 21] from 31 (fun s20 s21 wx => ∃ B' p7 D7 c7 q7 z7 m7 D3, s20 = .pointer (some ⟨B', 0, none⟩) ∧ s21 = .int .i64 0 ∧ Boxed w14 wx B' 100 p7 D7 c7 q7 z7 m7 D3 [] ∧ MountIs 100 D3 [] (some (dirB, 0)) 0)
  case first =>
    obtain ⟨⟨x0, x1, x2⟩, _⟩ := HKS.out w14 (Below.refl _ _)
    go_region_held3 (fun w' => (w'.cell? ⟨w11.heap.size, 0, none⟩ = some (.int .i64 100) ∧ w'.cell? ⟨w11.heap.size, 1, none⟩ = some (.slice pX xl cX) ∧ w'.cell? ⟨w11.heap.size, 2, none⟩ = some (.slice qX 0 mX)) ∧ Below w14.heap.size w14 w')
      (with_reducible first | exact HKS.out _ (Below.refl _ _).drew | exact HKS.out _ (Below.refl _ _) | exact HKS.out _ (below_alloc _ _).drew | exact HKS.out _ (below_alloc _ _) | exact HKS.out _ (below3 hB4 (Nat.le_succ_of_le hB3.size) _ _ _) | exact HKS.out _ (below3 hB4 hB3.size _ _ _) | exact HKS.out _ (below3 hB4 (Nat.le_refl _) _ _ _) | exact HKS.out _ hB4 | exact HKS.out _ (below_bt hB4 (below_alloc _ _)) | exact HKS.out _ hB3 | exact HKS.out _ (below_bt hB3 (below_alloc _ _)) | exact HKS.out _ (below_bt hB3 (below_bt (below_alloc _ _) (below_alloc _ _))) | assumption)
      (first
      | (go_at_call 13; refine (put_t _ _ _).mono ?_; rintro e w15 ⟨rfl, hb3⟩; revert hb3; (first | (refine zx_new ?_; intro hb3 hz3; obtain ⟨⟨i0, i1, i2⟩, j0, j1, j2⟩ := hz3.cells) | (refine zx_newD ?_; intro hb3 hz3; obtain ⟨⟨i0, i1, i2⟩, j0, j1, j2⟩ := hz3.cells) | (refine zx_no ?_; intro hb3 hz3)); have hB3 : Below w14.heap.size w14 w15 := (by first | exact hb3 | exact below_drC hb3 | exact below_bt (below_alloc _ _) hb3 | exact below_bt (below_alloc _ _) (below_drC hb3)))
      | (go_at_call 16; go_loud (refine (HTD.out _ _ (below_bt hB3 (by first | exact below_alloc _ _ | exact (below_alloc _ _).drew | exact below_bt (below_alloc _ _) (below_alloc _ _) | exact (below_bt (below_alloc _ _) (below_alloc _ _)).drew)) (by first | exact heap_alloc_new _ _ | exact chg_under _ _ _ _ | exact chg_over _ _ _ _)).mono ?_; rintro e w16 ⟨q1, n1, m1, q2', n2, m2', D3, rfl, hb4, hd4, hm4⟩; revert hz3 hb4; (first | (refine zx_keepC ?_; intro hb4 hz4; obtain ⟨⟨i0, i1, i2⟩, j0, j1, j2⟩ := hz4.a.cells) | (refine zx_drop ?_; (first | (refine zx_newC ?_; intro hb4 hz4; obtain ⟨⟨i0, i1, i2⟩, j0, j1, j2⟩ := hz4.a.cells) | (refine zx_under ?_; intro hb4 hz4; obtain ⟨⟨i0, i1, i2⟩, j0, j1, j2⟩ := hz4.a.cells) | (refine zx_no ?_; intro hb4 hz4)))); have hB4 : Below w14.heap.size w14 w16 := below_bt hB3 (by first | exact below_bt (below_alloc _ _) hb4 | exact below_bt (below_bt (below_alloc _ _) (below_alloc _ _)) hb4)))
      | fail)
    all_goals
      rename_i hh
      go_wp2
      go_meet
      case rel =>
        first
          | exact ⟨_, _, _, _, _, _, _, D3, rfl, rfl, ⟨set3_same _ _ _ _ _ _ _ _ _ hz4.a.a, hd4.set3 hz4.b _ _ _, hh.2⟩, hm4⟩
          | exact ⟨_, _, _, _, _, _, _, D3, rfl, rfl, ⟨heap_alloc_new _ _, hd4.below (below_alloc _ _), hh.2⟩, hm4⟩
  case rest =>
  obtain ⟨B', p7, D7, c7, q7, z7, m7, D3, rfl, rfl, hbx, hm3⟩ := hcut
  have HBX7 : Hid (Boxed w14 wc B' 100 p7 D7 c7 q7 z7 m7 D3 []) := hbx
  have HM3 : Hid (MountIs 100 D3 [] (some (dirB, 0)) 0) := hm3
  have HSc : Hid (Sm 0 wB wc ∧ Below w.heap.size w wc) := ⟨HS14.out.1.next hbx.below, below_bt HS14.out.2.2 hbx.below⟩
  have HMc : Hid (wc.heap[w2.heap.size]? = some (.cells #[.int .i64 2, .slice (some ⟨fb, fo, none⟩) 1 m12] 31 (0, 0))) := (hbx.below.block _ (lt_heap HM14.out)).trans HM14.out
  clear hbx hm3 HKS HTD
  obtain ⟨x0, x1, x2⟩ := three_cells HBX7.out.box
  have hmy := Mount_any _ 100 D3 [] wc (HL.out.below HSc.out.2) HBX7.out.disk _ 0 HM3.out
  go_wp2_with fail
  refine hmy.mono ?_
  rintro e w17 ⟨ls3, lv3, _, hls3, rfl, hfo3, hb17⟩
  obtain ⟨q17, m17, rfl, hlm3, _, _⟩ := hfo3.form
  have hls1 : ls3.length = 1 := by have := congrArg List.length hls3; simpa [dirB] using this
  have HFO3 : Hid (FOwn w17 wc.heap.size (.slice q17 1 m17) ls3 ∧ ls3.map Prod.fst = dirB.files) := by show _ ∧ _; rw [← hls1]; exact ⟨hfo3, hls3⟩
  rw [hls1] at hlm3 ⊢
  have HM17 : Hid (w17.heap[w2.heap.size]? = some (.cells #[.int .i64 2, .slice (some ⟨fb, fo, none⟩) 1 m12] 31 (0, 0))) := (hb17.block _ (lt_heap HMc.out)).trans HMc.out
  have HS17 : Hid (Sm 0 wB w17 ∧ Below w.heap.size w w17) := ⟨HSc.out.1.next hb17, below_bt HSc.out.2 hb17⟩
  have HLc : Hid (w2.heap.size < wc.heap.size) := lt_heap HMc.out
  obtain ⟨y0, y1⟩ := two_cells HM17.out
  have f0 : w17.frozen? ⟨w2.heap.size, 0, none⟩ = false := by simp only [World.frozen?, HM17.out]; rfl
  have f1 : w17.frozen? ⟨w2.heap.size, 1, none⟩ = false := by simp only [World.frozen?, HM17.out]; rfl
  clear hmy hls3 hfo3 hb17 hls1 x0 x1 x2
  go_upto_region 18 with fail
  obtain ⟨V, hV⟩ : ∃ V, (w17.setCell ⟨w2.heap.size, 0, none⟩ (.int .i64 dirB.gen)).setCell ⟨w2.heap.size, 1, none⟩ (.slice q17 1 m17) = V := ⟨_, rfl⟩
  have HSV : Hid (Sm 0 wB V ∧ Below w.heap.size w V) := by
    show _ ∧ _
    have h1 := HBM.out.1
    have h4 := HBB.out.size
    rw [← hV]
    exact ⟨(HS17.out.1.set (.inl h1) _ _).set (.inl h1) _ _, set2_below HS17.out.2 (by omega) _ _⟩
  have HMV : Hid (V.heap[w2.heap.size]? = some (.cells #[.int .i64 3, .slice q17 1 m17] 31 (0, 0))) := by
    show _ = _
    rw [← hV]
    exact heap_setCell_same _ _ 1 _ _ _ (heap_setCell_same _ _ 0 _ _ _ HM17.out)
  have hfi := fown_at (w := V) (HFO3.out.1.keepB (by rw [← hV]; exact (((Sm.refl wc.heap.size w17).set (.inr HLc.out) _ _).set (.inr HLc.out) _ _).same)) (b_may : May ltS dirB) HFO3.out.2
  rw [hV]
  clear hV y0 y1 f0 f1
  obtain ⟨fb3, fo3, rfl⟩ := hfi.addr (by decide)
  obtain ⟨e0, e1, pv, e2, hp⟩ := hfi.at (k := 0) (by decide)
  obtain ⟨pq, pc, rfl, hpq, hpl, hpm, _⟩ := hp.lies
  have e0' : V.cell? ⟨fb3, fo3, none⟩ = some (.string ⟨#[98]⟩) := e0
  have e2' : V.cell? ⟨fb3, fo3 + 2, none⟩ = some (.slice pq 0 pc) := e2
  have hm1I : (1 : Int) ≤ (m17 : Int) := by omega
  obtain ⟨y0, y1⟩ := two_cells HMV.out
  clear hfi e0 e1 e2 hp hpq hpl hpm
  go_upto_region 19 with fail
  clear y0 y1 e0' e2' hm1I
  obtain ⟨i0, x0, x1, x2⟩ := HDI.out V HSV.out.1
  have HT1 : Hid (∀ w' g, Below V.heap.size V w' → w'.heap[g]? = some (.cells #[.string ⟨#[120]⟩, .string ⟨#[]⟩, .bool true] 40 (0, 0)) → Calls Tryz.prog 12 #[.agg #[.int .i64 100, .slice p dl c, .slice q 0 m], .slice (some ⟨g, 0, none⟩) 1 1] w' fun e w'' => ∃ av : Value, e = .returned (.tuple #[av, .int .i64 6]) ∧ Below w'.heap.size w' w'') := fun w' g hb hg => turn_wrong _ D _ 1 1 _ 6 w' (HL.out.below (below_bt HSV.out.2 hb)) HD.out (HDI.out w' (HSV.out.1.next hb)).1 (chg_one (by decide) hg) (fun y hy => by rw [List.mem_singleton.1 hy]; decide) (fun m A h => turnIs_chg h e1_chg (by decide))
  clear i0
  go_wp2_with fail
  refine (HT1.out _ _ (below_alloc _ _) (heap_alloc_new _ _)).mono ?_
  rintro e w19 ⟨av1, rfl, hb19⟩
  have HSA : Hid (Sm 0 wB w19 ∧ Below w.heap.size w w19) := ⟨HSV.out.1.next (below_bt (below_alloc _ _) hb19), below_bt HSV.out.2 (below_bt (below_alloc _ _) hb19)⟩
  clear hb19 x0 x1 x2 HT1
  have HKA : Hid (∀ w', Below w19.heap.size w19 w' → (w'.cell? ⟨w1.heap.size, 0, none⟩ = some (.int .i64 100) ∧ w'.cell? ⟨w1.heap.size, 1, none⟩ = some (.slice p dl c) ∧ w'.cell? ⟨w1.heap.size, 2, none⟩ = some (.slice q 0 m)) ∧ Below w19.heap.size w19 w') := fun w' hb => ⟨(HDI.out w' (HSA.out.1.next hb)).2, hb⟩
  have HTA : Hid (∀ w' g, Below w19.heap.size w19 w' → w'.heap[g]? = some (.cells #[.string ⟨#[65]⟩, .string ⟨#[]⟩, .bool false] 40 (0, 0)) → Calls Tryz.prog 12 #[.agg #[.int .i64 100, .slice p dl c, .slice q 0 m], .slice (some ⟨g, 0, none⟩) 1 1] w' fun e w'' => ∃ av : Value, e = .returned (.tuple #[av, .int .i64 5]) ∧ Below w'.heap.size w' w'') := fun w' g hb hg => turn_wrong _ D _ 1 1 _ 5 w' (HL.out.below (below_bt HSA.out.2 hb)) HD.out (HDI.out w' (HSA.out.1.next hb)).1 (chg_one (by decide) hg) (fun y hy => by rw [List.mem_singleton.1 hy]; decide) (fun m A h => turnIs_chg h e2_chg (by decide))
  have HPA : Hid (∀ (k v : ByteArray) w', ((w'.cell? ⟨w1.heap.size, 0, none⟩ = some (.int .i64 100) ∧ w'.cell? ⟨w1.heap.size, 1, none⟩ = some (.slice p dl c) ∧ w'.cell? ⟨w1.heap.size, 2, none⟩ = some (.slice q 0 m)) ∧ Below w19.heap.size w19 w') → Calls Tryz.prog 13 #[.string k, .string v] w' fun e w'' => e = .returned (.agg #[.string k, .string v, .bool false]) ∧ Below w19.heap.size w19 w'') := fun k v w' hs => (put_t k v w').mono fun e w'' h => ⟨h.1, below_bt hs.2 h.2⟩
  go_upto_region 20 with fail
  obtain ⟨⟨x0, x1, x2⟩, _⟩ := HKA.out w19 (Below.refl _ _)
  go_region_held3 (fun w' => (w'.cell? ⟨w1.heap.size, 0, none⟩ = some (.int .i64 100) ∧ w'.cell? ⟨w1.heap.size, 1, none⟩ = some (.slice p dl c) ∧ w'.cell? ⟨w1.heap.size, 2, none⟩ = some (.slice q 0 m)) ∧ Below w19.heap.size w19 w')
    (with_reducible first | exact HKA.out _ (Below.refl _ _).drew | exact HKA.out _ (Below.refl _ _) | exact HKA.out _ (below_bt hB (below_bt (below_alloc _ _) hbt)) | exact HKA.out _ (below_bt hB (below_alloc _ _)) | exact HKA.out _ hB | assumption)
    (first
    | (go_at_call 13; refine (HPA.out _ _ _ (by first | assumption | exact HKA.out _ (Below.refl _ _).drew | exact HKA.out _ (Below.refl _ _))).mono ?_; rintro e wpA ⟨rfl, hB⟩)
    | (go_at_call 12; refine (HTA.out _ _ (below_bt hB (below_alloc _ _)) (heap_alloc_new _ _)).mono ?_; rintro e wtA ⟨avA, rfl, hbt⟩)
    | fail)
  rename_i hh
  have HSG : Hid (Sm 0 wB wtA ∧ Below w.heap.size w wtA) := ⟨HSA.out.1.next hh.2, below_bt HSA.out.2 hh.2⟩
  clear hh hB hbt x0 x1 x2 HTA HPA HKA
  have HKG : Hid (∀ w', Below wtA.heap.size wtA w' → (w'.cell? ⟨w1.heap.size, 0, none⟩ = some (.int .i64 100) ∧ w'.cell? ⟨w1.heap.size, 1, none⟩ = some (.slice p dl c) ∧ w'.cell? ⟨w1.heap.size, 2, none⟩ = some (.slice q 0 m)) ∧ Below wtA.heap.size wtA w') := fun w' hb => ⟨(HDI.out w' (HSG.out.1.next hb)).2, hb⟩
  have HTG : Hid (∀ w' g, Below wtA.heap.size wtA w' → w'.heap[g]? = some (.cells #[.string ⟨#[97]⟩, .string ⟨#[]⟩, .bool false, .string ⟨#[97]⟩, .string ⟨#[]⟩, .bool false] 40 (0, 0)) → Calls Tryz.prog 12 #[.agg #[.int .i64 100, .slice p dl c, .slice q 0 m], .slice (some ⟨g, 0, none⟩) 2 2] w' fun e w'' => ∃ av : Value, e = .returned (.tuple #[av, .int .i64 8]) ∧ Below w'.heap.size w' w'') := fun w' g hb hg => turn_wrong _ D _ 2 2 _ 8 w' (HL.out.below (below_bt HSG.out.2 hb)) HD.out (HDI.out w' (HSG.out.1.next hb)).1 (chg_two (by decide) (by decide) hg) e3_vals (fun m A h => turnIs_chg h e3_chg (by decide))
  have HPG : Hid (∀ (k v : ByteArray) w', ((w'.cell? ⟨w1.heap.size, 0, none⟩ = some (.int .i64 100) ∧ w'.cell? ⟨w1.heap.size, 1, none⟩ = some (.slice p dl c) ∧ w'.cell? ⟨w1.heap.size, 2, none⟩ = some (.slice q 0 m)) ∧ Below wtA.heap.size wtA w') → Calls Tryz.prog 13 #[.string k, .string v] w' fun e w'' => e = .returned (.agg #[.string k, .string v, .bool false]) ∧ Below wtA.heap.size wtA w'') := fun k v w' hs => (put_t k v w').mono fun e w'' h => ⟨h.1, below_bt hs.2 h.2⟩
  go_upto_region 21 with fail
  obtain ⟨⟨x0, x1, x2⟩, _⟩ := HKG.out wtA (Below.refl _ _)
  go_region_held3 (fun w' => (w'.cell? ⟨w1.heap.size, 0, none⟩ = some (.int .i64 100) ∧ w'.cell? ⟨w1.heap.size, 1, none⟩ = some (.slice p dl c) ∧ w'.cell? ⟨w1.heap.size, 2, none⟩ = some (.slice q 0 m)) ∧ Below wtA.heap.size wtA w')
    (with_reducible first | exact HKG.out _ (Below.refl _ _).drew | exact HKG.out _ (Below.refl _ _) | exact HKG.out _ (below_bt hB (below_bt (below_alloc _ _) hbt)) | exact HKG.out _ (below_bt hB (below_alloc _ _)) | exact HKG.out _ hB | assumption)
    (first
    | (go_at_call 13; refine (HPG.out _ _ _ (by first | assumption | exact HKG.out _ (Below.refl _ _).drew | exact HKG.out _ (Below.refl _ _))).mono ?_; rintro e wpG ⟨rfl, hB⟩)
    | (go_at_call 12; refine (HTG.out _ _ (below_bt hB (below_alloc _ _)) (heap_alloc_new _ _)).mono ?_; rintro e wtG ⟨avG, rfl, hbt⟩)
    | fail)
  rename_i hh
  have HSJ : Hid (Sm 0 wB wtG ∧ Below w.heap.size w wtG) := ⟨HSG.out.1.next hh.2, below_bt HSG.out.2 hh.2⟩
  clear hh hB hbt x0 x1 x2 HTG HPG HKG
  have HKJ : Hid (∀ w', Below wtG.heap.size wtG w' → (w'.cell? ⟨w1.heap.size, 0, none⟩ = some (.int .i64 100) ∧ w'.cell? ⟨w1.heap.size, 1, none⟩ = some (.slice p dl c) ∧ w'.cell? ⟨w1.heap.size, 2, none⟩ = some (.slice q 0 m)) ∧ Below wtG.heap.size wtG w') := fun w' hb => ⟨(HDI.out w' (HSJ.out.1.next hb)).2, hb⟩
  have HTJ : Hid (∀ w' g, Below wtG.heap.size wtG w' → w'.heap[g]? = some (.cells #[.string ⟨#[97]⟩, .string (textS 2561), .bool false] 40 (0, 0)) → Calls Tryz.prog 12 #[.agg #[.int .i64 100, .slice p dl c, .slice q 0 m], .slice (some ⟨g, 0, none⟩) 1 1] w' fun e w'' => ∃ av : Value, e = .returned (.tuple #[av, .int .i64 30]) ∧ Below w'.heap.size w' w'') := fun w' g hb hg => turn_wrong _ D _ 1 1 _ 30 w' (HL.out.below (below_bt HSJ.out.2 hb)) HD.out (HDI.out w' (HSJ.out.1.next hb)).1 (chg_a 2561 hg) (fun y hy => by rw [List.mem_singleton.1 hy]; show ((textS 2561).size : Int) ≤ _; rw [textS_size]; decide) (fun m A h => turnIs_place h (a_chg 2561) (by rw [a_puts]; decide) e4_place)
  have HPJ : Hid (∀ (k v : ByteArray) w', ((w'.cell? ⟨w1.heap.size, 0, none⟩ = some (.int .i64 100) ∧ w'.cell? ⟨w1.heap.size, 1, none⟩ = some (.slice p dl c) ∧ w'.cell? ⟨w1.heap.size, 2, none⟩ = some (.slice q 0 m)) ∧ Below wtG.heap.size wtG w') → Calls Tryz.prog 13 #[.string k, .string v] w' fun e w'' => e = .returned (.agg #[.string k, .string v, .bool false]) ∧ Below wtG.heap.size wtG w'') := fun k v w' hs => (put_t k v w').mono fun e w'' h => ⟨h.1, below_bt hs.2 h.2⟩
  go_upto_region 22 with fail
  obtain ⟨⟨x0, x1, x2⟩, _⟩ := HKJ.out wtG (Below.refl _ _)
  go_region_held3 (fun w' => (w'.cell? ⟨w1.heap.size, 0, none⟩ = some (.int .i64 100) ∧ w'.cell? ⟨w1.heap.size, 1, none⟩ = some (.slice p dl c) ∧ w'.cell? ⟨w1.heap.size, 2, none⟩ = some (.slice q 0 m)) ∧ Below wtG.heap.size wtG w')
    (with_reducible first | exact HKJ.out _ (Below.refl _ _).drew | exact HKJ.out _ (Below.refl _ _) | exact HKJ.out _ (below_bt hB (below_bt (below_alloc _ _) hbt)) | exact HKJ.out _ (below_bt hB (below_alloc _ _)) | exact HKJ.out _ hB | assumption)
    (first
    | (go_at_call 14; refine (text_t 2561 _ (by decide)).mono ?_; rintro e wxJ ⟨rfl, hbx⟩; have hB : Below wtG.heap.size wtG wxJ := (by first | exact hbx | exact below_drC hbx))
    | (go_at_call 13; refine (HPJ.out _ _ _ (by first | assumption | exact HKJ.out _ hB)).mono ?_; rintro e wpJ ⟨rfl, hB⟩)
    | (go_at_call 12; refine (HTJ.out _ _ (below_bt hB (below_alloc _ _)) (heap_alloc_new _ _)).mono ?_; rintro e wtJ ⟨avJ, rfl, hbt⟩)
    | fail)
  rename_i hh
  have HSZ : Hid (Sm 0 wB wtJ ∧ Below w.heap.size w wtJ) := ⟨HSJ.out.1.next hh.2, below_bt HSJ.out.2 hh.2⟩
  clear hh hB hbt x0 x1 x2 HTJ HPJ HKJ
  have hal := alive_t wtJ (HL.out.below HSZ.out.2)
  go_wp2_with fail
  refine hal.mono ?_
  rintro e wz ⟨rfl, hbz⟩
  have HBZ : Hid (Below w.heap.size w wz) := below_bt HSZ.out.2 hbz
  clear hal hbz
  go_wp2
  go_ret
  exact ⟨rfl, HBZ.out⟩
end Go.Proofs.YtiakfdhbbkpfhaaGreatDoor
