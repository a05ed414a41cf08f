import Derived.Test.YtghcmllmbpoidaaGreatDoorJ43
import Derived.Test.YtghcmllmbpoidaaGreatDoorJ21
import Derived.Test.YtghcmllmbpoidaaGreatDoorJ05
import Derived.Test.YtghcmllmbpoidaaGreatDoorJ02
import Derived.OpenShut
import Derived.Deep.QuietTactic
import Derived.Test.YtghcmllmbpoidaaGreatDoorRows
import Derived.Test.YtghcmllmbpoidaaGreatDoorJ08
import Derived.LaidSub
import Derived.LaidHandle
import Derived.LaidLaws
import Derived.RowKitTokens
import Derived.Lib.LaidTab
namespace Go.Proofs.YtghcmllmbpoidaaGreatDoor
open Go.RowKit Go.WideShapes
theorem chg_under (w : World) (cs : Array Value) (t : TypeId) (o : Obj) : ((w.alloc (.cells cs t)).alloc o).heap[w.heap.size]? = some (.cells cs t (0, 0)) := ((below_alloc (w.alloc (.cells cs t)) o).block _ (by simp)).trans (heap_alloc_new w _)
theorem chg_over (w : World) (cs : Array Value) (t : TypeId) (o : Obj) : ((w.alloc o).alloc (.cells cs t)).heap[w.heap.size + 1]? = some (.cells cs t (0, 0)) := by
  have h := heap_alloc_new (w.alloc o) (.cells cs t)
  simpa using h
def ZX (w : World) (g : Nat) : Prop := w.heap[g]? = some (.cells #[.int .i64 0, .slice none 0 0, .slice none 0 0] 35 (0, 0))
structure ZF (w : World) (g : Nat) : Prop where
  a : ZX w g
structure ZH (w : World) (g base : Nat) : Prop where
  a : ZF w g
  b : g < base
theorem zx_new {G : Prop} {w w' : World} (h : Below (w.alloc (.cells #[.int .i64 0, .slice none 0 0, .slice none 0 0] 35)).heap.size (w.alloc (.cells #[.int .i64 0, .slice none 0 0, .slice none 0 0] 35)) w' → ZF w' w.heap.size → G) : Below (w.alloc (.cells #[.int .i64 0, .slice none 0 0, .slice none 0 0] 35)).heap.size (w.alloc (.cells #[.int .i64 0, .slice none 0 0, .slice none 0 0] 35)) w' → G :=
  fun hb => h hb ⟨(hb.block _ (by simp)).trans (heap_alloc_new w _)⟩
theorem zx_newD {G : Prop} {w w' : World} (h : Below (w.alloc (.cells #[.int .i64 0, .slice none 0 0, .slice none 0 0] 35)).drew.heap.size (w.alloc (.cells #[.int .i64 0, .slice none 0 0, .slice none 0 0] 35)).drew w' → ZF w' w.heap.size → G) : Below (w.alloc (.cells #[.int .i64 0, .slice none 0 0, .slice none 0 0] 35)).drew.heap.size (w.alloc (.cells #[.int .i64 0, .slice none 0 0, .slice none 0 0] 35)).drew w' → G :=
  fun hb => h hb ⟨(((below_drC hb)).block _ (by simp)).trans (heap_alloc_new w _)⟩
theorem zx_newC {G : Prop} {w w' : World} {cs : Array Value} {t : TypeId} (h : Below ((w.alloc (.cells cs t)).alloc (.cells #[.int .i64 0, .slice none 0 0, .slice none 0 0] 35)).heap.size ((w.alloc (.cells cs t)).alloc (.cells #[.int .i64 0, .slice none 0 0, .slice none 0 0] 35)) w' → ZH w' (w.heap.size + 1) ((w.alloc (.cells cs t)).alloc (.cells #[.int .i64 0, .slice none 0 0, .slice none 0 0] 35)).heap.size → G) : Below ((w.alloc (.cells cs t)).alloc (.cells #[.int .i64 0, .slice none 0 0, .slice none 0 0] 35)).heap.size ((w.alloc (.cells cs t)).alloc (.cells #[.int .i64 0, .slice none 0 0, .slice none 0 0] 35)) w' → G :=
  fun hb => h hb ⟨by
    have h1 := heap_alloc_new (w.alloc (.cells cs t)) (.cells #[.int .i64 0, .slice none 0 0, .slice none 0 0] 35)
    have h2 : ((w.alloc (.cells cs t)).alloc (.cells #[.int .i64 0, .slice none 0 0, .slice none 0 0] 35)).heap[w.heap.size + 1]? = some (.cells #[.int .i64 0, .slice none 0 0, .slice none 0 0] 35 (0, 0)) := by simpa using h1
    exact ⟨(hb.block _ (lt_heap h2)).trans h2⟩, by rw [World.size_alloc, World.size_alloc]; exact Nat.lt_succ_self _⟩
theorem zx_under {G : Prop} {w w' : World} {cs : Array Value} {t : TypeId} (h : Below ((w.alloc (.cells #[.int .i64 0, .slice none 0 0, .slice none 0 0] 35)).alloc (.cells cs t)).heap.size ((w.alloc (.cells #[.int .i64 0, .slice none 0 0, .slice none 0 0] 35)).alloc (.cells cs t)) w' → ZH w' w.heap.size ((w.alloc (.cells #[.int .i64 0, .slice none 0 0, .slice none 0 0] 35)).alloc (.cells cs t)).heap.size → G) : Below ((w.alloc (.cells #[.int .i64 0, .slice none 0 0, .slice none 0 0] 35)).alloc (.cells cs t)).heap.size ((w.alloc (.cells #[.int .i64 0, .slice none 0 0, .slice none 0 0] 35)).alloc (.cells cs t)) w' → G :=
  fun hb => h hb ⟨by
    have h2 := chg_under w #[.int .i64 0, .slice none 0 0, .slice none 0 0] 35 (.cells cs t)
    exact ⟨(hb.block _ (lt_heap h2)).trans h2⟩, by rw [World.size_alloc, World.size_alloc]; omega⟩
theorem ZF.next {w w' : World} {g : Nat} (h : ZF w g) (hb : Below w.heap.size w w') : ZF w' g := ⟨(hb.block _ (lt_heap h.a)).trans h.a⟩
theorem ZF.cells {w : World} {g : Nat} (h : ZF w g) : (w.cell? ⟨g, 0, none⟩ = some (.int .i64 0) ∧ w.cell? ⟨g, 1, none⟩ = some (.slice none 0 0) ∧ w.cell? ⟨g, 2, none⟩ = some (.slice none 0 0)) ∧ w.frozen? ⟨g, 0, none⟩ = false ∧ w.frozen? ⟨g, 1, none⟩ = false ∧ w.frozen? ⟨g, 2, none⟩ = false := cells3f h.a
theorem zx_no {G P : Prop} (h : P → True → G) : P → G := fun p => h p trivial
theorem zx_keep {G : Prop} {w w' : World} {g : Nat} (h : Below w.heap.size w w' → ZF w' g → G) : ZF w g → Below w.heap.size w w' → G := fun z b => h b (z.next b)
theorem zx_keepC {G : Prop} {w w' : World} {g : Nat} {o : Obj} (h : Below (w.alloc o).heap.size (w.alloc o) w' → ZH w' g (w.alloc o).heap.size → G) : ZF w g → Below (w.alloc o).heap.size (w.alloc o) w' → G := fun z b => h b ⟨z.next (below_bt (below_alloc _ _) b), by have := lt_heap z.a; rw [World.size_alloc]; omega⟩
theorem below3 {base g : Nat} {w0 w : World} (h : Below base w0 w) (hg : base ≤ g) (a b c : Value) : Below base w0 (((w.setCell ⟨g, 0, none⟩ a).setCell ⟨g, 1, none⟩ b).setCell ⟨g, 2, none⟩ c) := below_setR _ _ (below_setR _ _ (below_setR _ _ h hg) hg) hg
theorem zx_drop {G P : Prop} (h : P → G) : True → P → G := fun _ p => h p
theorem put12 (k v : ByteArray) (w : World) : Calls Tryz.prog 11 #[.string k, .string v] w fun e w' => e = .returned (.agg #[.string k, .string v, .bool false]) ∧ Below w.heap.size w w' := by
  have HB : Hid (Below w.heap.size w (w.alloc (.cells #[.string ⟨#[]⟩, .string ⟨#[]⟩, .bool false] 40))) := below_alloc w _
  go_enter Tryz.func11, Tryz.ntmps11
  go_wp2
  (try simp only [Exit.inBlock, Exit.then])
  refine bodyPost_ret (v := .agg #[.string k, .string v, .bool false]) ?_ rfl ?_
  · rw [Lg.results_cell1 rfl]
    go_simp
  · exact ⟨rfl, by first | exact (below_alloc w _) | exact (((HB.out.setCell (Nat.le_refl _) _).setCell (Nat.le_refl _) _).setCell (Nat.le_refl _) _)⟩
theorem tells0 : Tells [] [] [] := ⟨by decide, fun i hi => (by cases hi), all0, List.Pairwise.nil, by decide⟩
theorem strs12 : (strOf b12).size = 12 := by kernel_rfl
theorem tells2 : Tells [b12] [l2] E2 := by
  refine ⟨by decide, fun i hi => ?_, all2, rise2, by decide⟩
  obtain rfl : i = 0 := by simp at hi; exact hi
  exact ⟨by show (strOf b12).size ≤ _; rw [strs12]; decide, rd2, by decide⟩
theorem chg2 {w : World} {g : Nat} (h : w.heap[g]? = some (.cells #[.string sA, .string sX, .bool false, .string sB, .string sY, .bool false] 40 (0, 0))) : Tr.CsIn w (some ⟨g, 0, none⟩) l2 := by
  refine fun _ => ⟨g, 0, rfl, fun i hi => ?_⟩
  have hi2 : i < 2 := hi
  rcases i with _ | _ | i
  · exact ⟨Lib.cell_of_heap h 0, Lib.cell_of_heap h 1, Lib.cell_of_heap h 2⟩
  · exact ⟨Lib.cell_of_heap h 3, Lib.cell_of_heap h 4, Lib.cell_of_heap h 5⟩
  · omega
structure TdA (w : World) (e : Ending) (w' : World) : Prop where
  ex : ∃ q1 n1 m1 q2 m2 D2 A la t, e = .returned (.agg #[.int .i64 200, .slice q1 n1 m1, .slice q2 0 m2]) ∧ Below w.heap.size w w' ∧ DiskF w.heap.size w' (.agg #[.int .i64 200, .slice q1 n1 m1, .slice q2 0 m2]) 200 D2 [] ∧ Dk 200 D2 [b12] A la t ∧ D2.length = n1
theorem done2 {D : List Nat} {A la N : Nat} (h : Dk 200 D [] A la (List.replicate N 0)) (hA : A + 1 ≤ 63) {dl : Nat} (hk : D.length = dl) (p q : Option Addr) (c m g : Nat) (w : World) (hL : Laid w) (hM : Mg.Laid w) (hd : DiskIn w (.agg #[.int .i64 200, .slice p dl c, .slice q 0 m]) 200 D []) (hg : w.heap[g]? = some (.cells #[.string sA, .string sX, .bool false, .string sB, .string sY, .bool false] 40 (0, 0))) :
    Calls Tryz.prog 10 #[.agg #[.int .i64 200, .slice p dl c, .slice q 0 m], .int .i64 0, .slice (some ⟨g, 0, none⟩) 2 2] w fun e w' => TdA w e w' := by
  refine (done_ok h tells0 hk p q c m w hL hM hd (some ⟨g, 0, none⟩) 2 2 l2 (chg2 hg) rfl (by decide) (by decide) (by decide) b12 wr2 b12_byte (by decide) 1 (by rw [mostS_zeros]) (by decide) (by show A + 1 ≤ 63; exact hA)).mono ?_
  rintro e w' ⟨⟨v, D', rfl, hdk, hdf⟩, hb⟩
  obtain ⟨q1, m1, q2, m2, rfl, _⟩ := hdf.self.parts
  exact ⟨_, D'.length, _, _, _, D', _, _, _, rfl, hb, hdf, hdk, rfl⟩
theorem less_0 : Mg.lessE (E2.getD 0 Mg.zeroE) ⟨sA, ByteArray.empty, 1, false⟩ = false := by kernel_rfl
theorem less_1 : Mg.lessE (E2.getD 1 Mg.zeroE) ⟨sA, ByteArray.empty, 1, false⟩ = false := by kernel_rfl
theorem get2 {D : List Nat} {A la : Nat} {t : List Nat} (h : Dk 200 D [b12] A la t) {k : Nat} (hk : D.length = k) (p q : Option Addr) (c m : Nat) (w : World) (hL : Laid w) (hM : Mg.Laid w) (hd : DiskIn w (.agg #[.int .i64 200, .slice p k c, .slice q 0 m]) 200 D []) :
    Calls Tryz.prog 12 #[.agg #[.int .i64 200, .slice p k c, .slice q 0 m], .string sA, .int .i64 1] w fun e w' => e = .returned (.tuple #[.string sX, .bool true, .int .i64 0]) ∧ Below w.heap.size w w' := by
  refine Get_ok 200 k 0 p q c m w 1 E2 (fun W hb => open_dk h tells2 hk p q c m W (hL.below hb) (hM.below hb hM.size) (hd.below hb)) sA (by decide) (by decide) 1 (by decide) (by decide) 0 (by decide) (by decide) (fun t ht => by omega) (fun t _ ht => ?_) sX 1 rfl
  have ht2 : t < 2 := ht
  rcases t with _ | _ | t
  · exact less_0
  · exact less_1
  · omega
theorem sX_is : (sX.toList == [120]) = true := by kernel_rfl
set_option maxRecDepth 8000 in
set_option maxHeartbeats 12000000 in
theorem alive_t (w : World) (hL : Laid w) (hM : Mg.Laid w) : Calls Tryz.prog 4 #[] w fun e w' => e = .returned (.bool true) ∧ Below w.heap.size w w' := by
  have HL : Hid (Laid w ∧ Mg.Laid w) := ⟨hL, hM⟩
  have hf := FormatT_ok 200 w hL (by decide) (by decide)
  clear hL hM
  go_enter Tryz.func4, Tryz.ntmps4
  go_wp2_with fail
  refine hf.mono ?_
  rintro e w1 ⟨⟨v1, D, rfl, hD, hF1⟩, hb1⟩
  obtain ⟨p, c, q, m, hv1, _⟩ := hF1.parts
  subst hv1
  simp only [List.length_nil] at hF1 ⊢
  obtain ⟨dl, hdl⟩ : ∃ k, D.length = k := ⟨_, rfl⟩
  rw [hdl] at hF1 ⊢
  have HB1 : Hid (Below w.heap.size w w1) := hb1
  obtain ⟨wB, hwB⟩ : ∃ wB, w1.alloc (.cells #[.int .i64 200, .slice p dl c, .slice q 0 m] 35) = wB := ⟨_, rfl⟩
  have HBB : Hid (Below w1.heap.size w1 wB) := by show Below _ _ _; rw [← hwB]; exact below_alloc _ _
  have HBX : Hid (wB.heap[w1.heap.size]? = some (.cells #[.int .i64 200, .slice p dl c, .slice q 0 m] 35 (0, 0))) := by show _ = _; rw [← hwB]; exact heap_alloc_new _ _
  have HKS : Hid (∀ w', Below wB.heap.size wB w' → (w'.cell? ⟨w1.heap.size, 0, none⟩ = some (.int .i64 200) ∧ w'.cell? ⟨w1.heap.size, 1, none⟩ = some (.slice p dl c) ∧ w'.cell? ⟨w1.heap.size, 2, none⟩ = some (.slice q 0 m)) ∧ Below wB.heap.size wB w') := fun w' hb => ⟨three_cells ((hb.block _ (lt_heap HBX.out)).trans HBX.out), hb⟩
  have HTD : Hid (∀ w' g, Below wB.heap.size wB w' → w'.heap[g]? = some (.cells #[.string ⟨#[97]⟩, .string ⟨#[120]⟩, .bool false, .string ⟨#[98]⟩, .string ⟨#[121]⟩, .bool false] 40 (0, 0)) → Calls Tryz.prog 10 #[.agg #[.int .i64 200, .slice p dl c, .slice q 0 m], .int .i64 0, .slice (some ⟨g, 0, none⟩) 2 2] w' fun e w'' => TdA w' e w'') := fun w' g hb hg => done2 hD (by decide) hdl p q c m g w' (HL.out.1.below (below_bt HB1.out (below_bt HBB.out hb))) (HL.out.2.below (below_bt HB1.out (below_bt HBB.out hb)) HL.out.2.size) (hF1.below (below_bt HBB.out hb)) hg
  clear hf hD hF1 hb1 hdl
  go_upto_region 2 with fail
  (try rw [hwB])
  clear hwB
  obtain ⟨⟨x0, x1, x2⟩, _⟩ := HKS.out wB (Below.refl _ _)
  go_region_held3 (fun w' => (w'.cell? ⟨w1.heap.size, 0, none⟩ = some (.int .i64 200) ∧ w'.cell? ⟨w1.heap.size, 1, none⟩ = some (.slice p dl c) ∧ w'.cell? ⟨w1.heap.size, 2, none⟩ = some (.slice q 0 m)) ∧ Below wB.heap.size wB w')
    (with_reducible first | exact HKS.out _ (Below.refl _ _).drew | exact HKS.out _ (Below.refl _ _) | exact HKS.out _ (below_alloc _ _).drew | exact HKS.out _ (below_alloc _ _) | exact HKS.out _ (below3 hB4 (Nat.le_succ_of_le hB3.size) _ _ _) | exact HKS.out _ (below3 hB4 hB3.size _ _ _) | exact HKS.out _ (below3 hB4 hB2.size _ _ _) | exact HKS.out _ (below3 hB4 (Nat.le_refl _) _ _ _) | exact HKS.out _ hB4 | exact HKS.out _ (below_bt hB4 (below_alloc _ _)) | exact HKS.out _ hB3 | exact HKS.out _ (below_bt hB3 (below_alloc _ _)) | exact HKS.out _ (below_bt hB3 (below_bt (below_alloc _ _) (below_alloc _ _))) | exact HKS.out _ hB2 | exact HKS.out _ (below_bt hB2 (below_alloc _ _)) | assumption)
    (first
    | (go_at_call 11; refine (put12 ⟨#[97]⟩ ⟨#[120]⟩ _).mono ?_; rintro e w2 ⟨rfl, hb2⟩; revert hb2; (first | (refine zx_new ?_; intro hb2 hz2; obtain ⟨⟨i0, i1, i2⟩, j0, j1, j2⟩ := hz2.cells) | (refine zx_newD ?_; intro hb2 hz2; obtain ⟨⟨i0, i1, i2⟩, j0, j1, j2⟩ := hz2.cells) | (refine zx_no ?_; intro hb2 hz2)); have hB2 : Below wB.heap.size wB w2 := (by first | exact hb2 | exact below_drC hb2 | exact below_bt (below_alloc _ _) hb2 | exact below_bt (below_alloc _ _) (below_drC hb2)))
    | (go_at_call 11; refine (put12 ⟨#[98]⟩ ⟨#[121]⟩ _).mono ?_; rintro e w3 ⟨rfl, hb3⟩; revert hz2 hb3; (first | (refine zx_keep ?_; intro hb3 hz3; obtain ⟨⟨i0, i1, i2⟩, j0, j1, j2⟩ := hz3.cells) | (refine zx_drop ?_; (first | (refine zx_new ?_; intro hb3 hz3; obtain ⟨⟨i0, i1, i2⟩, j0, j1, j2⟩ := hz3.cells) | (refine zx_no ?_; intro hb3 hz3)))); have hB3 : Below wB.heap.size wB w3 := below_bt hB2 (by first | exact hb3 | exact below_drC hb3 | exact below_bt (below_alloc _ _) hb3 | exact below_bt (below_alloc _ _) (below_drC hb3)))
    | (go_at_call 10; go_loud (refine (HTD.out _ _ (below_bt hB3 (by first | exact below_alloc _ _ | exact (below_alloc _ _).drew | exact below_bt (below_alloc _ _) (below_alloc _ _) | exact (below_bt (below_alloc _ _) (below_alloc _ _)).drew)) (by first | exact heap_alloc_new _ _ | exact chg_under _ _ _ _ | exact chg_over _ _ _ _)).mono ?_; rintro e w4 ⟨q1, n1, m1, q2, m2, D2, A2, la2, t2, rfl, hb4, hd4, hm4, hg4⟩; revert hz3 hb4; (first | (refine zx_keepC ?_; intro hb4 hz4; obtain ⟨⟨i0, i1, i2⟩, j0, j1, j2⟩ := hz4.a.cells) | (refine zx_drop ?_; (first | (refine zx_newC ?_; intro hb4 hz4; obtain ⟨⟨i0, i1, i2⟩, j0, j1, j2⟩ := hz4.a.cells) | (refine zx_under ?_; intro hb4 hz4; obtain ⟨⟨i0, i1, i2⟩, j0, j1, j2⟩ := hz4.a.cells) | (refine zx_no ?_; intro hb4 hz4)))); have hB4 : Below wB.heap.size wB w4 := below_bt hB3 (by first | exact below_bt (below_alloc _ _) hb4 | exact below_bt (below_bt (below_alloc _ _) (below_alloc _ _)) hb4 | exact below_bt (below_alloc _ _) (below_drC hb4))))
    | fail)
  all_goals
    rename_i hh
    have HBF : Hid _ := below_bt HB1.out (below_bt HBB.out hh.2)
    have HM4 : Hid (Dk 200 D2 [b12] A2 la2 t2 ∧ D2.length = n1) := ⟨hm4, hg4⟩
    have HD4 : Hid _ := hd4
    clear hm4 hg4 hd4
    go_wp2_with fail
    refine (get2 HM4.out.1 HM4.out.2 q1 q2 m1 m2 _ (HL.out.1.below HBF.out) (HL.out.2.below HBF.out HL.out.2.size) (by first | exact DiskF.set3 HD4.out hz4.b _ _ _ | exact DiskF.below HD4.out (below_alloc _ _))).mono ?_
    rintro e w5 ⟨rfl, hb5⟩
    have HBZ : Hid _ := below_bt HBF.out hb5
    have hsx := sX_is
    clear hh hb5
    go_wp2
    go_ret
    exact ⟨rfl, HBZ.out⟩
theorem wr_sizes {l : List Tr.CV} (h : Tr.chgK l l.length = 0) : ∀ x ∈ l, (x.key.size : Int) ≤ 9223372036854775807 ∧ (x.val.size : Int) ≤ 9223372036854775807 := by
  intro x hx
  obtain ⟨k, hk, rfl⟩ := List.mem_iff_getElem.1 hx
  have h1 := Tr.chgK_step l k (Tr.chgK_all h k (by omega))
  rw [Tr.chgK_all h (k + 1) hk] at h1
  have e : l.getD k Tr.zeroCV = l[k] := by rw [List.getD_eq_getElem?_getD, List.getElem?_eq_getElem hk]; rfl
  rw [e] at h1
  unfold Tr.oneW at h1
  by_cases c1 : l[k].key.size < 1 ∨ 256 < l[k].key.size
  · rw [if_pos c1] at h1; cases h1
  · rw [if_neg c1] at h1
    by_cases c2 : 4096 < l[k].val.size
    · rw [if_pos c2] at h1; cases h1
    · omega
set_option maxRecDepth 8000 in
set_option maxHeartbeats 8000000 in
theorem treeBack_walk (q : Option Addr) (c : Nat) (l : List Tr.CV) (seq : Int) (s : ByteArray) (W : World) (hL : Laid W) (hM : Mg.Laid W) (hin : Tr.CsIn W q l) (hlc : l.length ≤ c) (hcm : c ≤ maxLen) (hqn : q = none → c = 0) (hwf : ∀ x ∈ l, (x.key.size : Int) ≤ 9223372036854775807 ∧ (x.val.size : Int) ≤ 9223372036854775807) (hs : s.size ≤ maxLen) :
    Calls Tryz.prog 3 #[.slice q l.length c, .int .i64 seq, .string s] W fun e W' => e = .returned (.bool true) ∧ Below W.heap.size W W' := by
  have hll : (l.length : Int) ≤ 9223372036854775807 := by unfold maxLen at hcm; omega
  have HWF : Hid (∀ x ∈ l, (x.key.size : Int) ≤ 9223372036854775807 ∧ (x.val.size : Int) ≤ 9223372036854775807) := hwf
  have hal := alive_t W hL hM
  have HIN : Hid (Tr.CsIn W q l ∧ l.length ≤ c ∧ (q = none → c = 0)) := ⟨hin, hlc, hqn⟩
  have hsI : (s.size : Int) ≤ 9223372036854775807 := by unfold maxLen at hs; omega
  obtain ⟨n, hn⟩ : ∃ n, l.length = n := ⟨_, rfl⟩
  have HN : Hid (l.length = n) := hn
  rw [hn] at hll ⊢
  clear hwf hin hlc hcm hqn hn hs hL hM
  go_enter Tryz.func3, Tryz.ntmps3
  go_wp2_with fail
  refine hal.mono ?_
  rintro e w0 ⟨rfl, hb0⟩
  have HB0 : Hid (Below W.heap.size W w0) := hb0
  have hhv := Tr.heavy_any q n c l w0 HN.out.symm (HIN.out.1.below hb0) hll
  clear hb0 hal
  go_wp2_with fail
  refine hhv.mono ?_
  rintro e w1 ⟨r1, rfl, hr1, hb1⟩
  have HB1 : Hid (Below W.heap.size W w1) := below_bt HB0.out hb1
  clear hhv hb1
  cases r1 with
  | true =>
    clear hr1
    go_wp2
    go_ret
    exact ⟨rfl, HB1.out⟩
  | false =>
    have HN2 : Hid (n ≤ 200) := hr1 rfl
    clear hr1
    by_cases hlong : 10000 < s.size
    · have hlI : (10000 : Int) < (s.size : Int) := by omega
      clear hlong
      go_wp2
      go_ret
      exact ⟨rfl, HB1.out⟩
    have hlI : (s.size : Int) ≤ 10000 := by omega
    have HSZ : Hid (s.size ≤ 100000) := by show _ ≤ _; omega
    clear hlong
    obtain ⟨r, hr⟩ : ∃ r, Tr.writeE l seq = r := ⟨_, rfl⟩
    obtain ⟨o, ho⟩ : ∃ o, Tr.readE Tr.gP (numsOf s) = o := ⟨_, rfl⟩
    have HO : Hid (Tr.readE Tr.gP (numsOf s) = o) := ho
    have hw := Tr.Write_any q n c l seq w1 (HIN.out.1.below HB1.out) HN.out.symm (by have := HIN.out.2.1; have := HN.out; omega) hll HWF.out r hr
    have REST : ∀ w2, Below W.heap.size W w2 → Hid (Calls Tryz.prog 7 #[.string s] w2 fun e w' => Tr.RdN w2 o e w') := fun w2 _ => Tr.Read_t s w2 HSZ.out o ho
    obtain ⟨er, b⟩ := r
    have HR : Hid (Tr.writeE l seq = (er, b)) := hr
    clear hr ho
    go_wp2_with fail
    refine hw.mono ?_
    rintro e w2 ⟨rfl, hb2⟩
    have HB2 : Hid (Below W.heap.size W w2) := below_bt HB1.out hb2
    clear hw hb2
    by_cases her : er = 0
    · subst her
      obtain ⟨h1, h2, _, _, _, hbr, hb4⟩ := Tr.writeE_ok HR.out
      obtain ⟨sq, hsq⟩ : ∃ sq : Nat, seq = (sq : Int) := ⟨seq.toNat, by omega⟩
      subst hsq
      have hbb : ∀ x ∈ b, x < 256 := by have := Tr.writeE_bytes l (sq : Int); rw [HR.out] at this; exact this
      have hre : Tr.readE Tr.gP (numsOf (strOf b)) = some (l, sq) := by rw [nums_strOf hbb]; exact Tr.readE_of rfl rfl HR.out
      have hsz : (strOf b).size = b.length := by rw [← numsOf_len, nums_strOf hbb]
      have hbI : ((strOf b).size : Int) ≤ 4096 := by rw [hsz]; omega
      have hrd := Tr.Read_t (strOf b) w2 (by rw [hsz]; omega) _ hre
      obtain ⟨rb, hrb⟩ : ∃ rb, strOf b = rb := ⟨_, rfl⟩
      rw [hrb] at hrd hbI
      simp only [hrb]
      clear h1 h2 hbr hb4 hbb hre hsz hrb
      go_wp2_with fail
      refine hrd.mono ?_
      rintro e w3 ⟨cv, rfl, hoc, hb3⟩
      simp only [Option.map_some, Option.getD_some] at hoc
      obtain ⟨cq, cm, rfl, _⟩ := Tr.own_form hoc
      have HB3 : Hid (Below W.heap.size W w3) := below_bt HB2.out hb3
      have hsm := Tr.same_yes12 q cq n n c cm l w3 (HIN.out.1.below HB3.out) (Tr.COwn.cs hoc) HN.out.symm HN.out.symm (by have := HN.out; have := HN2.out; omega)
      have HSM : Hid _ := hsm
      simp only [Option.map_some, Option.getD_some, Option.isSome_some, if_true]
      rw [HN.out]
      clear hoc hb3 hrd hsm
      go_wp2_with fail
      refine Calls.mono HSM.out ?_
      rintro e w4 ⟨rfl, hb4⟩
      have HBT : Hid (Below W.heap.size W w4) := below_bt HB3.out hb4
      clear hb4 HSM
      go_wp2_with fail
      refine Calls.mono (REST _ HBT.out).out ?_
      rintro e w5 ⟨dv, rfl, hod, hb5⟩
      have HB5 : Hid (Below W.heap.size W w5) := below_bt HBT.out hb5
      clear hb5 HBT REST
      cases o with
      | none =>
        obtain ⟨dq, dm, rfl, _⟩ := Tr.own_form hod
        simp only [Option.map_none, Option.getD_none, List.length_nil, Option.isSome_none, Bool.false_eq_true, if_false]
        clear hod
        go_wp2
        go_ret
        exact ⟨rfl, HB5.out⟩
      | some mk =>
        obtain ⟨ms, sk⟩ := mk
        have hwo := Tr.readE_some HO.out
        obtain ⟨_, _, _, h64, hch, _, _⟩ := Tr.writeE_ok hwo
        simp only [Option.map_some, Option.getD_some] at hod
        obtain ⟨dq, dm, rfl, hdm, _⟩ := Tr.own_form hod
        have hdm2 : ms.length ≤ dm := hdm
        have hwr := Tr.Write_any dq ms.length dm ms (sk : Int) w5 (Tr.COwn.cs hod) rfl hdm2 (by omega) (wr_sizes hch) _ hwo
        rw [show strOf (0, numsOf s).2 = s from strOf_nums s] at hwr
        obtain ⟨ml, hml⟩ : ∃ ml, ms.length = ml := ⟨_, rfl⟩
        rw [hml] at hwr
        simp only [Option.map_some, Option.getD_some, Option.isSome_some, if_true]
        rw [hml]
        have HWR : Hid _ := hwr
        clear hwo h64 hch hdm hdm2 hod hwr hml
        go_wp2_with fail
        refine Calls.mono HWR.out ?_
        rintro e w6 ⟨rfl, hb6⟩
        have HB6 : Hid (Below W.heap.size W w6) := below_bt HB5.out hb6
        clear hb6 HWR
        go_wp2
        go_ret
        exact ⟨by simp, HB6.out⟩
    · have hne : (er == 0) = false := by simp; omega
      have HBT : Hid (Below W.heap.size W w2) := HB2.out
      clear her
      simp only
      go_wp2_with fail
      refine Calls.mono (REST _ HBT.out).out ?_
      rintro e w5 ⟨dv, rfl, hod, hb5⟩
      have HB5 : Hid (Below W.heap.size W w5) := below_bt HBT.out hb5
      clear hb5 HBT REST
      cases o with
      | none =>
        obtain ⟨dq, dm, rfl, _⟩ := Tr.own_form hod
        simp only [Option.map_none, Option.getD_none, List.length_nil, Option.isSome_none, Bool.false_eq_true, if_false]
        clear hod
        go_wp2
        go_ret
        exact ⟨rfl, HB5.out⟩
      | some mk =>
        obtain ⟨ms, sk⟩ := mk
        have hwo := Tr.readE_some HO.out
        obtain ⟨_, _, _, h64, hch, _, _⟩ := Tr.writeE_ok hwo
        simp only [Option.map_some, Option.getD_some] at hod
        obtain ⟨dq, dm, rfl, hdm, _⟩ := Tr.own_form hod
        have hdm2 : ms.length ≤ dm := hdm
        have hwr := Tr.Write_any dq ms.length dm ms (sk : Int) w5 (Tr.COwn.cs hod) rfl hdm2 (by omega) (wr_sizes hch) _ hwo
        rw [show strOf (0, numsOf s).2 = s from strOf_nums s] at hwr
        obtain ⟨ml, hml⟩ : ∃ ml, ms.length = ml := ⟨_, rfl⟩
        rw [hml] at hwr
        simp only [Option.map_some, Option.getD_some, Option.isSome_some, if_true]
        rw [hml]
        have HWR : Hid _ := hwr
        clear hwo h64 hch hdm hdm2 hod hwr hml
        go_wp2_with fail
        refine Calls.mono HWR.out ?_
        rintro e w6 ⟨rfl, hb6⟩
        have HB6 : Hid (Below W.heap.size W w6) := below_bt HB5.out hb6
        clear hb6 HWR
        go_wp2
        go_ret
        exact ⟨by simp, HB6.out⟩
end Go.Proofs.YtghcmllmbpoidaaGreatDoor
namespace Go.Proofs.YtghcmllmbpoidaaGreatDoor.Tr
open Go.RowKit Go.WideShapes Go.ChangeShapes Go.Deep Go.Joins
structure WfC (y : CV) : Prop where
  key : y.key.size ≤ maxLen
  val : y.val.size ≤ maxLen
structure Chgs (w : World) (v : Value) (l : List CV) : Prop where
  lies : ∃ q c, v = .slice q l.length c ∧ CsIn w q l ∧ l.length ≤ c ∧ c ≤ maxLen ∧ (q = none → c = 0)
  wf : ∀ y ∈ l, WfC y
section
variable {P : Program} {w : World} {H : Type} {enc : TypeId × Value → H}
theorem open_change {e : TypeId} {f0 f1 f2 : Field} {n : Nat} {cs : List Value} {x : DataW H × List MemPlace} (he : P.underlying e = some (.struct #[f0, f1, f2])) (hl : cs.length = 3)
    (o0 : f0.offset = 0) (o1 : f1.offset = 1) (o2 : f2.offset = 2) (c0 : P.cellsOf f0.type = 1) (c1 : P.cellsOf f1.type = 1) (c2 : P.cellsOf f2.type = 1) (k0 : P.underlying f0.type = some .string) (k1 : P.underlying f1.type = some .string) (k2 : P.underlying f2.type = some .bool)
    (h : DataW.trod enc P w 0 (fun _ => true) true n e cs = some x) : ∃ y : CV, cs = [.string y.key, .string y.val, .bool y.gone] ∧ WfC y := by
  obtain ⟨xs, k', hk, hxy, _, hxl, hf⟩ := DataW.trod_struct he h
  match xs, hxl, cs, hl with
  | [y0, y1, y2], _, [v0, v1, v2], _ =>
    have r0 := hf 0 f0 rfl
    have r1 := hf 1 f1 rfl
    have r2 := hf 2 f2 rfl
    simp [o0, o1, o2, c0, c1, c2] at r0 r1 r2
    obtain ⟨s, hs, _, hsz⟩ := DataW.trod_string k0 r0
    obtain ⟨s1, hs1, _, hsz1⟩ := DataW.trod_string k1 r1
    obtain ⟨g, hg, _⟩ := DataW.trod_bool k2 r2
    simp only [List.cons.injEq, and_true] at hs hs1 hg
    subst hs hs1 hg
    exact ⟨⟨s, s1, g⟩, rfl, ⟨hsz, hsz1⟩⟩
theorem open_changes {t e : TypeId} {f0 f1 f2 : Field} {n : Nat} {v : Value} {x : DataW H × List MemPlace} (ht : P.underlying t = some (.slice e)) (he : P.underlying e = some (.struct #[f0, f1, f2])) (ce : P.cellsOf e = 3)
    (o0 : f0.offset = 0) (o1 : f1.offset = 1) (o2 : f2.offset = 2) (c0 : P.cellsOf f0.type = 1) (c1 : P.cellsOf f1.type = 1) (c2 : P.cellsOf f2.type = 1) (k0 : P.underlying f0.type = some .string) (k1 : P.underlying f1.type = some .string) (k2 : P.underlying f2.type = some .bool)
    (h : DataW.trod enc P w 0 (fun _ => true) true n t [v] = some x) : ∃ l, Chgs w v l := by
  rcases open_slice ht h with ⟨hcs, _⟩ | ⟨a, len, cap, m, k, D, Pl, hcs, _, hl, hm, hmm, _, hel⟩
  · simp only [List.cons.injEq, and_true] at hcs
    exact ⟨[], ⟨none, 0, hcs, fun h => absurd h (by simp), by simp, by unfold maxLen; omega, fun _ => rfl⟩, by simp⟩
  · simp only [List.cons.injEq, and_true] at hcs
    have hmc : m = cap := by simpa using hmm
    have each : ∀ i, i < len → ∃ y : CV, w.cell? (a.add (i * 3)) = some (.string y.key) ∧ w.cell? (a.add (i * 3 + 1)) = some (.string y.val) ∧ w.cell? (a.add (i * 3 + 2)) = some (.bool y.gone) ∧ WfC y := by
      intro i hi
      obtain ⟨cs', g1, g2⟩ := hel i (by omega)
      rw [ce] at g1
      obtain ⟨_, hlen, hcell⟩ := World.cells?_some g1
      obtain ⟨y, rfl, wy⟩ := open_change he hlen o0 o1 o2 c0 c1 c2 k0 k1 k2 g2
      have e0 := hcell 0 (by omega)
      have e1 := hcell 1 (by omega)
      have e2 := hcell 2 (by omega)
      rw [add_add] at e0 e1 e2
      exact ⟨y, by simpa using e0, by simpa using e1, by simpa using e2, wy⟩
    haveI : Inhabited CV := ⟨zeroCV⟩
    obtain ⟨f, hf⟩ := choose_lt each
    have hlen : ((List.range len).map f).length = len := by simp
    have hget : ∀ i, i < len → ((List.range len).map f).getD i zeroCV = f i := by intro i hi; simp [List.getD, hi]
    refine ⟨(List.range len).map f, ⟨⟨some a, cap, by rw [hlen]; exact hcs, fun hp => ?_, by rw [hlen]; exact hl, hm, by simp⟩, ?_⟩⟩
    · rw [hlen] at hp
      obtain ⟨b, o, s⟩ := a
      obtain rfl : s = none := by
        have := World.cell?_spot (hf 0 (by omega)).1
        simpa [Addr.add] using this
      refine ⟨b, o, rfl, fun i hi => ?_⟩
      rw [hlen] at hi
      obtain ⟨e0, e1, e2, _⟩ := hf i hi
      rw [hget i hi]
      rw [add_plain] at e0 e1 e2
      exact ⟨e0, e1, e2⟩
    · intro y hy
      simp only [List.mem_map, List.mem_range] at hy
      obtain ⟨i, hi, rfl⟩ := hy
      exact (hf i hi).2.2.2
end
end Go.Proofs.YtghcmllmbpoidaaGreatDoor.Tr
namespace Go.Proofs.YtghcmllmbpoidaaGreatDoor
open Go.RowKit Go.WideShapes Rm
theorem lh.rt : (Tryz.prog.cutTypes.find? (·.1 == "internal/reflectlite.rtype")).map (·.2) = some 169 := by kernel_rfl
theorem lh.et : Tryz.prog.globalNamed "errors.errorType" = some 0 := by kernel_rfl
theorem lh.size : Tryz.prog.types.size = 483 := by kernel_rfl
theorem lh.oneRow : ((List.range 483).filter fun t => Tryz.prog.rowNamed t [101, 114, 114, 111, 114]) = [45] := by kernel_rfl
theorem lh.handle : typeHandle Tryz.prog 45 = .pointer (some ⟨14, 45, none⟩) := by kernel_rfl
theorem errT_of {W : World} (h : handlesMet Tryz.prog [("errors.errorType", Rows.laid_errors_errorType)] W) : ErrT W := by
  obtain ⟨name, u, ty, e1, e2, e3, e4, e5⟩ := h _ (List.mem_singleton.2 rfl)
  have en : name = [101, 114, 114, 111, 114] := (Option.some.inj e1).symm
  subst en
  obtain rfl := Option.some.inj (lh.rt.symm.trans e2)
  have hm : ty ∈ (List.range 483).filter fun t => Tryz.prog.rowNamed t [101, 114, 114, 111, 114] := List.mem_filter.2 ⟨List.mem_range.2 (by rw [← lh.size]; exact e3), e4⟩
  rw [lh.oneRow] at hm
  obtain rfl := List.mem_singleton.1 hm
  rw [lh.handle] at e5
  simpa [ErrT] using World.var?_cell lh.et e5 0
theorem tab_of {W : World} (h : laidMet Tryz.prog [("internal/strconv.uint64pow10", Rows.laid_internal_strconv_uint64pow10)] W) : Lib.TabIs Tryz.prog W "internal/strconv.uint64pow10" .u64 Lib.pow10Tab :=
  Lib.tabIs_of_head (rest := []) g_pow (t := 284) (e := 83) (n := 20) (by kernel_rfl) Tryz.underlying284 Tryz.underlying83 (by kernel_rfl) (by kernel_rfl) h
end Go.Proofs.YtghcmllmbpoidaaGreatDoor
