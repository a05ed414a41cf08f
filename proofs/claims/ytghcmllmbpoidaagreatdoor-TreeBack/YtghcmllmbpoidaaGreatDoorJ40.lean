import Derived.Test.YtghcmllmbpoidaaGreatDoorJ39
import Derived.Test.YtghcmllmbpoidaaGreatDoorJ17
namespace Go.Proofs.YtghcmllmbpoidaaGreatDoor
open Go.RowKit Go.WideShapes
theorem chg_under (w : World) (cs : Array Value) (t : TypeId) (o : Obj) : ((w.alloc (.cells cs t)).alloc o).heap[w.heap.size]? = some (.cells cs t (0, 0)) := ((below_alloc (w.alloc (.cells cs t)) o).block _ (by simp)).trans (heap_alloc_new w _)
theorem chg_over (w : World) (cs : Array Value) (t : TypeId) (o : Obj) : ((w.alloc o).alloc (.cells cs t)).heap[w.heap.size + 1]? = some (.cells cs t (0, 0)) := by
  have h := heap_alloc_new (w.alloc o) (.cells cs t)
  simpa using h
def ZX (w : World) (g : Nat) : Prop := w.heap[g]? = some (.cells #[.int .i64 0, .slice none 0 0, .slice none 0 0] 35 (0, 0))
structure ZF (w : World) (g : Nat) : Prop where
  a : ZX w g
structure ZH (w : World) (g base : Nat) : Prop where
  a : ZF w g
  b : g < base
theorem zx_new {G : Prop} {w w' : World} (h : Below (w.alloc (.cells #[.int .i64 0, .slice none 0 0, .slice none 0 0] 35)).heap.size (w.alloc (.cells #[.int .i64 0, .slice none 0 0, .slice none 0 0] 35)) w' → ZF w' w.heap.size → G) : Below (w.alloc (.cells #[.int .i64 0, .slice none 0 0, .slice none 0 0] 35)).heap.size (w.alloc (.cells #[.int .i64 0, .slice none 0 0, .slice none 0 0] 35)) w' → G :=
  fun hb => h hb ⟨(hb.block _ (by simp)).trans (heap_alloc_new w _)⟩
theorem zx_newD {G : Prop} {w w' : World} (h : Below (w.alloc (.cells #[.int .i64 0, .slice none 0 0, .slice none 0 0] 35)).drew.heap.size (w.alloc (.cells #[.int .i64 0, .slice none 0 0, .slice none 0 0] 35)).drew w' → ZF w' w.heap.size → G) : Below (w.alloc (.cells #[.int .i64 0, .slice none 0 0, .slice none 0 0] 35)).drew.heap.size (w.alloc (.cells #[.int .i64 0, .slice none 0 0, .slice none 0 0] 35)).drew w' → G :=
  fun hb => h hb ⟨(((below_drC hb)).block _ (by simp)).trans (heap_alloc_new w _)⟩
theorem zx_newC {G : Prop} {w w' : World} {cs : Array Value} {t : TypeId} (h : Below ((w.alloc (.cells cs t)).alloc (.cells #[.int .i64 0, .slice none 0 0, .slice none 0 0] 35)).heap.size ((w.alloc (.cells cs t)).alloc (.cells #[.int .i64 0, .slice none 0 0, .slice none 0 0] 35)) w' → ZH w' (w.heap.size + 1) ((w.alloc (.cells cs t)).alloc (.cells #[.int .i64 0, .slice none 0 0, .slice none 0 0] 35)).heap.size → G) : Below ((w.alloc (.cells cs t)).alloc (.cells #[.int .i64 0, .slice none 0 0, .slice none 0 0] 35)).heap.size ((w.alloc (.cells cs t)).alloc (.cells #[.int .i64 0, .slice none 0 0, .slice none 0 0] 35)) w' → G :=
  fun hb => h hb ⟨by
    have h1 := heap_alloc_new (w.alloc (.cells cs t)) (.cells #[.int .i64 0, .slice none 0 0, .slice none 0 0] 35)
    have h2 : ((w.alloc (.cells cs t)).alloc (.cells #[.int .i64 0, .slice none 0 0, .slice none 0 0] 35)).heap[w.heap.size + 1]? = some (.cells #[.int .i64 0, .slice none 0 0, .slice none 0 0] 35 (0, 0)) := by simpa using h1
    exact ⟨(hb.block _ (lt_heap h2)).trans h2⟩, by rw [World.size_alloc, World.size_alloc]; exact Nat.lt_succ_self _⟩
theorem zx_under {G : Prop} {w w' : World} {cs : Array Value} {t : TypeId} (h : Below ((w.alloc (.cells #[.int .i64 0, .slice none 0 0, .slice none 0 0] 35)).alloc (.cells cs t)).heap.size ((w.alloc (.cells #[.int .i64 0, .slice none 0 0, .slice none 0 0] 35)).alloc (.cells cs t)) w' → ZH w' w.heap.size ((w.alloc (.cells #[.int .i64 0, .slice none 0 0, .slice none 0 0] 35)).alloc (.cells cs t)).heap.size → G) : Below ((w.alloc (.cells #[.int .i64 0, .slice none 0 0, .slice none 0 0] 35)).alloc (.cells cs t)).heap.size ((w.alloc (.cells #[.int .i64 0, .slice none 0 0, .slice none 0 0] 35)).alloc (.cells cs t)) w' → G :=
  fun hb => h hb ⟨by
    have h2 := chg_under w #[.int .i64 0, .slice none 0 0, .slice none 0 0] 35 (.cells cs t)
    exact ⟨(hb.block _ (lt_heap h2)).trans h2⟩, by rw [World.size_alloc, World.size_alloc]; omega⟩
theorem ZF.next {w w' : World} {g : Nat} (h : ZF w g) (hb : Below w.heap.size w w') : ZF w' g := ⟨(hb.block _ (lt_heap h.a)).trans h.a⟩
theorem ZF.cells {w : World} {g : Nat} (h : ZF w g) : (w.cell? ⟨g, 0, none⟩ = some (.int .i64 0) ∧ w.cell? ⟨g, 1, none⟩ = some (.slice none 0 0) ∧ w.cell? ⟨g, 2, none⟩ = some (.slice none 0 0)) ∧ w.frozen? ⟨g, 0, none⟩ = false ∧ w.frozen? ⟨g, 1, none⟩ = false ∧ w.frozen? ⟨g, 2, none⟩ = false := cells3f h.a
theorem zx_no {G P : Prop} (h : P → True → G) : P → G := fun p => h p trivial
theorem zx_keep {G : Prop} {w w' : World} {g : Nat} (h : Below w.heap.size w w' → ZF w' g → G) : ZF w g → Below w.heap.size w w' → G := fun z b => h b (z.next b)
theorem zx_keepC {G : Prop} {w w' : World} {g : Nat} {o : Obj} (h : Below (w.alloc o).heap.size (w.alloc o) w' → ZH w' g (w.alloc o).heap.size → G) : ZF w g → Below (w.alloc o).heap.size (w.alloc o) w' → G := fun z b => h b ⟨z.next (below_bt (below_alloc _ _) b), by have := lt_heap z.a; rw [World.size_alloc]; omega⟩
theorem below3 {base g : Nat} {w0 w : World} (h : Below base w0 w) (hg : base ≤ g) (a b c : Value) : Below base w0 (((w.setCell ⟨g, 0, none⟩ a).setCell ⟨g, 1, none⟩ b).setCell ⟨g, 2, none⟩ c) := below_setR _ _ (below_setR _ _ (below_setR _ _ h hg) hg) hg
theorem zx_drop {G P : Prop} (h : P → G) : True → P → G := fun _ p => h p
theorem put12 (k v : ByteArray) (w : World) : Calls Tryz.prog 11 #[.string k, .string v] w fun e w' => e = .returned (.agg #[.string k, .string v, .bool false]) ∧ Below w.heap.size w w' := by
  have HB : Hid (Below w.heap.size w (w.alloc (.cells #[.string ⟨#[]⟩, .string ⟨#[]⟩, .bool false] 40))) := below_alloc w _
  go_enter Tryz.func11, Tryz.ntmps11
  go_wp2
  (try simp only [Exit.inBlock, Exit.then])
  refine bodyPost_ret (v := .agg #[.string k, .string v, .bool false]) ?_ rfl ?_
  · rw [Lg.results_cell1 rfl]
    go_simp
  · exact ⟨rfl, by first | exact (below_alloc w _) | exact (((HB.out.setCell (Nat.le_refl _) _).setCell (Nat.le_refl _) _).setCell (Nat.le_refl _) _)⟩
theorem tells0 : Tells [] [] [] := ⟨by decide, fun i hi => (by cases hi), all0, List.Pairwise.nil, by decide⟩
theorem strs12 : (strOf b12).size = 12 := by kernel_rfl
theorem tells2 : Tells [b12] [l2] E2 := by
  refine ⟨by decide, fun i hi => ?_, all2, rise2, by decide⟩
  obtain rfl : i = 0 := by simp at hi; exact hi
  exact ⟨by show (strOf b12).size ≤ _; rw [strs12]; decide, rd2, by decide⟩
theorem chg2 {w : World} {g : Nat} (h : w.heap[g]? = some (.cells #[.string sA, .string sX, .bool false, .string sB, .string sY, .bool false] 40 (0, 0))) : Tr.CsIn w (some ⟨g, 0, none⟩) l2 := by
  refine fun _ => ⟨g, 0, rfl, fun i hi => ?_⟩
  have hi2 : i < 2 := hi
  rcases i with _ | _ | i
  · exact ⟨Lib.cell_of_heap h 0, Lib.cell_of_heap h 1, Lib.cell_of_heap h 2⟩
  · exact ⟨Lib.cell_of_heap h 3, Lib.cell_of_heap h 4, Lib.cell_of_heap h 5⟩
  · omega
structure TdA (w : World) (e : Ending) (w' : World) : Prop where
  ex : ∃ q1 n1 m1 q2 m2 D2 A la t, e = .returned (.agg #[.int .i64 200, .slice q1 n1 m1, .slice q2 0 m2]) ∧ Below w.heap.size w w' ∧ DiskF w.heap.size w' (.agg #[.int .i64 200, .slice q1 n1 m1, .slice q2 0 m2]) 200 D2 [] ∧ Dk 200 D2 [b12] A la t ∧ D2.length = n1
theorem done2 {D : List Nat} {A la N : Nat} (h : Dk 200 D [] A la (List.replicate N 0)) (hA : A + 1 ≤ 63) {dl : Nat} (hk : D.length = dl) (p q : Option Addr) (c m g : Nat) (w : World) (hL : Laid w) (hM : Mg.Laid w) (hd : DiskIn w (.agg #[.int .i64 200, .slice p dl c, .slice q 0 m]) 200 D []) (hg : w.heap[g]? = some (.cells #[.string sA, .string sX, .bool false, .string sB, .string sY, .bool false] 40 (0, 0))) :
    Calls Tryz.prog 10 #[.agg #[.int .i64 200, .slice p dl c, .slice q 0 m], .int .i64 0, .slice (some ⟨g, 0, none⟩) 2 2] w fun e w' => TdA w e w' := by
  refine (done_ok h tells0 hk p q c m w hL hM hd (some ⟨g, 0, none⟩) 2 2 l2 (chg2 hg) rfl (by decide) (by decide) (by decide) b12 wr2 b12_byte (by decide) 1 (by rw [mostS_zeros]) (by decide) (by show A + 1 ≤ 63; exact hA)).mono ?_
  rintro e w' ⟨⟨v, D', rfl, hdk, hdf⟩, hb⟩
  obtain ⟨q1, m1, q2, m2, rfl, _⟩ := hdf.self.parts
  exact ⟨_, D'.length, _, _, _, D', _, _, _, rfl, hb, hdf, hdk, rfl⟩
theorem less_0 : Mg.lessE (E2.getD 0 Mg.zeroE) ⟨sA, ByteArray.empty, 1, false⟩ = false := by kernel_rfl
theorem less_1 : Mg.lessE (E2.getD 1 Mg.zeroE) ⟨sA, ByteArray.empty, 1, false⟩ = false := by kernel_rfl
theorem get2 {D : List Nat} {A la : Nat} {t : List Nat} (h : Dk 200 D [b12] A la t) {k : Nat} (hk : D.length = k) (p q : Option Addr) (c m : Nat) (w : World) (hL : Laid w) (hM : Mg.Laid w) (hd : DiskIn w (.agg #[.int .i64 200, .slice p k c, .slice q 0 m]) 200 D []) :
    Calls Tryz.prog 12 #[.agg #[.int .i64 200, .slice p k c, .slice q 0 m], .string sA, .int .i64 1] w fun e w' => e = .returned (.tuple #[.string sX, .bool true, .int .i64 0]) ∧ Below w.heap.size w w' := by
  refine Get_ok 200 k 0 p q c m w 1 E2 (fun W hb => open_dk h tells2 hk p q c m W (hL.below hb) (hM.below hb hM.size) (hd.below hb)) sA (by decide) (by decide) 1 (by decide) (by decide) 0 (by decide) (by decide) (fun t ht => by omega) (fun t _ ht => ?_) sX 1 rfl
  have ht2 : t < 2 := ht
  rcases t with _ | _ | t
  · exact less_0
  · exact less_1
  · omega
theorem sX_is : (sX.toList == [120]) = true := by kernel_rfl
set_option maxRecDepth 8000 in
set_option maxHeartbeats 12000000 in
theorem alive_t (w : World) (hL : Laid w) (hM : Mg.Laid w) : Calls Tryz.prog 4 #[] w fun e w' => e = .returned (.bool true) ∧ Below w.heap.size w w' := by
  have HL : Hid (Laid w ∧ Mg.Laid w) := ⟨hL, hM⟩
  have hf := FormatT_ok 200 w hL (by decide) (by decide)
  clear hL hM
  go_enter Tryz.func4, Tryz.ntmps4
  go_wp2_with fail
  refine hf.mono ?_
  rintro e w1 ⟨⟨v1, D, rfl, hD, hF1⟩, hb1⟩
  obtain ⟨p, c, q, m, hv1, _⟩ := hF1.parts
  subst hv1
  simp only [List.length_nil] at hF1 ⊢
  obtain ⟨dl, hdl⟩ : ∃ k, D.length = k := ⟨_, rfl⟩
  rw [hdl] at hF1 ⊢
  have HB1 : Hid (Below w.heap.size w w1) := hb1
  obtain ⟨wB, hwB⟩ : ∃ wB, w1.alloc (.cells #[.int .i64 200, .slice p dl c, .slice q 0 m] 35) = wB := ⟨_, rfl⟩
  have HBB : Hid (Below w1.heap.size w1 wB) := by show Below _ _ _; rw [← hwB]; exact below_alloc _ _
  have HBX : Hid (wB.heap[w1.heap.size]? = some (.cells #[.int .i64 200, .slice p dl c, .slice q 0 m] 35 (0, 0))) := by show _ = _; rw [← hwB]; exact heap_alloc_new _ _
  have HKS : Hid (∀ w', Below wB.heap.size wB w' → (w'.cell? ⟨w1.heap.size, 0, none⟩ = some (.int .i64 200) ∧ w'.cell? ⟨w1.heap.size, 1, none⟩ = some (.slice p dl c) ∧ w'.cell? ⟨w1.heap.size, 2, none⟩ = some (.slice q 0 m)) ∧ Below wB.heap.size wB w') := fun w' hb => ⟨three_cells ((hb.block _ (lt_heap HBX.out)).trans HBX.out), hb⟩
  have HTD : Hid (∀ w' g, Below wB.heap.size wB w' → w'.heap[g]? = some (.cells #[.string ⟨#[97]⟩, .string ⟨#[120]⟩, .bool false, .string ⟨#[98]⟩, .string ⟨#[121]⟩, .bool false] 40 (0, 0)) → Calls Tryz.prog 10 #[.agg #[.int .i64 200, .slice p dl c, .slice q 0 m], .int .i64 0, .slice (some ⟨g, 0, none⟩) 2 2] w' fun e w'' => TdA w' e w'') := fun w' g hb hg => done2 hD (by decide) hdl p q c m g w' (HL.out.1.below (below_bt HB1.out (below_bt HBB.out hb))) (HL.out.2.below (below_bt HB1.out (below_bt HBB.out hb)) HL.out.2.size) (hF1.below (below_bt HBB.out hb)) hg
  clear hf hD hF1 hb1 hdl
  go_upto_region 2 with fail
  (try rw [hwB])
  clear hwB
  obtain ⟨⟨x0, x1, x2⟩, _⟩ := HKS.out wB (Below.refl _ _)
  go_region_held3 (fun w' => (w'.cell? ⟨w1.heap.size, 0, none⟩ = some (.int .i64 200) ∧ w'.cell? ⟨w1.heap.size, 1, none⟩ = some (.slice p dl c) ∧ w'.cell? ⟨w1.heap.size, 2, none⟩ = some (.slice q 0 m)) ∧ Below wB.heap.size wB w')
    (with_reducible first | exact HKS.out _ (Below.refl _ _).drew | exact HKS.out _ (Below.refl _ _) | exact HKS.out _ (below_alloc _ _).drew | exact HKS.out _ (below_alloc _ _) | exact HKS.out _ (below3 hB4 (Nat.le_succ_of_le hB3.size) _ _ _) | exact HKS.out _ (below3 hB4 hB3.size _ _ _) | exact HKS.out _ (below3 hB4 hB2.size _ _ _) | exact HKS.out _ (below3 hB4 (Nat.le_refl _) _ _ _) | exact HKS.out _ hB4 | exact HKS.out _ (below_bt hB4 (below_alloc _ _)) | exact HKS.out _ hB3 | exact HKS.out _ (below_bt hB3 (below_alloc _ _)) | exact HKS.out _ (below_bt hB3 (below_bt (below_alloc _ _) (below_alloc _ _))) | exact HKS.out _ hB2 | exact HKS.out _ (below_bt hB2 (below_alloc _ _)) | assumption)
    (first
    | (go_at_call 11; refine (put12 ⟨#[97]⟩ ⟨#[120]⟩ _).mono ?_; rintro e w2 ⟨rfl, hb2⟩; revert hb2; (first | (refine zx_new ?_; intro hb2 hz2; obtain ⟨⟨i0, i1, i2⟩, j0, j1, j2⟩ := hz2.cells) | (refine zx_newD ?_; intro hb2 hz2; obtain ⟨⟨i0, i1, i2⟩, j0, j1, j2⟩ := hz2.cells) | (refine zx_no ?_; intro hb2 hz2)); have hB2 : Below wB.heap.size wB w2 := (by first | exact hb2 | exact below_drC hb2 | exact below_bt (below_alloc _ _) hb2 | exact below_bt (below_alloc _ _) (below_drC hb2)))
    | (go_at_call 11; refine (put12 ⟨#[98]⟩ ⟨#[121]⟩ _).mono ?_; rintro e w3 ⟨rfl, hb3⟩; revert hz2 hb3; (first | (refine zx_keep ?_; intro hb3 hz3; obtain ⟨⟨i0, i1, i2⟩, j0, j1, j2⟩ := hz3.cells) | (refine zx_drop ?_; (first | (refine zx_new ?_; intro hb3 hz3; obtain ⟨⟨i0, i1, i2⟩, j0, j1, j2⟩ := hz3.cells) | (refine zx_no ?_; intro hb3 hz3)))); have hB3 : Below wB.heap.size wB w3 := below_bt hB2 (by first | exact hb3 | exact below_drC hb3 | exact below_bt (below_alloc _ _) hb3 | exact below_bt (below_alloc _ _) (below_drC hb3)))
    | (go_at_call 10; go_loud (refine (HTD.out _ _ (below_bt hB3 (by first | exact below_alloc _ _ | exact (below_alloc _ _).drew | exact below_bt (below_alloc _ _) (below_alloc _ _) | exact (below_bt (below_alloc _ _) (below_alloc _ _)).drew)) (by first | exact heap_alloc_new _ _ | exact chg_under _ _ _ _ | exact chg_over _ _ _ _)).mono ?_; rintro e w4 ⟨q1, n1, m1, q2, m2, D2, A2, la2, t2, rfl, hb4, hd4, hm4, hg4⟩; revert hz3 hb4; (first | (refine zx_keepC ?_; intro hb4 hz4; obtain ⟨⟨i0, i1, i2⟩, j0, j1, j2⟩ := hz4.a.cells) | (refine zx_drop ?_; (first | (refine zx_newC ?_; intro hb4 hz4; obtain ⟨⟨i0, i1, i2⟩, j0, j1, j2⟩ := hz4.a.cells) | (refine zx_under ?_; intro hb4 hz4; obtain ⟨⟨i0, i1, i2⟩, j0, j1, j2⟩ := hz4.a.cells) | (refine zx_no ?_; intro hb4 hz4)))); have hB4 : Below wB.heap.size wB w4 := below_bt hB3 (by first | exact below_bt (below_alloc _ _) hb4 | exact below_bt (below_bt (below_alloc _ _) (below_alloc _ _)) hb4 | exact below_bt (below_alloc _ _) (below_drC hb4))))
    | fail)
  all_goals
    rename_i hh
    have HBF : Hid _ := below_bt HB1.out (below_bt HBB.out hh.2)
    have HM4 : Hid (Dk 200 D2 [b12] A2 la2 t2 ∧ D2.length = n1) := ⟨hm4, hg4⟩
    have HD4 : Hid _ := hd4
    clear hm4 hg4 hd4
    go_wp2_with fail
    refine (get2 HM4.out.1 HM4.out.2 q1 q2 m1 m2 _ (HL.out.1.below HBF.out) (HL.out.2.below HBF.out HL.out.2.size) (by first | exact DiskF.set3 HD4.out hz4.b _ _ _ | exact DiskF.below HD4.out (below_alloc _ _))).mono ?_
    rintro e w5 ⟨rfl, hb5⟩
    have HBZ : Hid _ := below_bt HBF.out hb5
    have hsx := sX_is
    clear hh hb5
    go_wp2
    go_ret
    exact ⟨rfl, HBZ.out⟩
end Go.Proofs.YtghcmllmbpoidaaGreatDoor
