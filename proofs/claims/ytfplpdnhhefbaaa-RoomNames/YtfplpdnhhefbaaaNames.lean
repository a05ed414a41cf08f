/-
  The limits and errors of the layer 'room' have their numbers, and the chapter's examples are so. No condition: the statement takes no input.
-/
import Derived.Test.YtfplpdnhhefbaaaRows
import Derived.Test.YtfplpdnhhefbaaaPAlive
import Derived.WalkKit
import Derived.ProofKit
import Derived.OpenShut
import Derived.ShutString
import Derived.ChangeOld
import Derived.Below
namespace Go.Proofs.Ytfplpdnhhefbaaa.roomNames
open Go.ChangeShapes Go.WideShapes Go.ChangeAt Go.RowKit
open Go.ChangeMaps (open_string shut_string)
set_option linter.unusedVariables false

theorem own : ownKnob Try.prog.godebug = none := by kernel_rfl
theorem laidOut : laidOutB Try.prog = true := by kernel_rfl

open Go.Joins

def l2L : Pcs := [(2, 1), (5, 1)]
def revL : Pcs := [(5, 1), (3, 2)]
def j3L : Pcs := [(3, 3)]
def badA : Pcs := [(3, 2), (4, 1)]
def badB : Pcs := [(9, 2)]
def badC : Pcs := [(3, 0)]
theorem wf_l2L : Wf l2L := wf_small (by decide)
theorem wf_aliveL : Wf aliveL := wf_alive
theorem wf_revL : Wf revL := wf_small (by decide)
theorem wf_j3L : Wf j3L := wf_small (by decide)
theorem wf_badA : Wf badA := wf_small (by decide)
theorem wf_badB : Wf badB := wf_small (by decide)
theorem wf_badC : Wf badC := wf_small (by decide)
theorem take2 {w : World} {v : Value} (h : PIn w v twoL) : Calls Try.prog 9 #[.int .i64 2, .int .i64 10, v, .int .i64 2] w (ListPost l2L 0 w) := by
  have := take_any 2 10 v twoL 2 w h
  rwa [show resT 2 10 twoL 2 = l2L from by decide +kernel, show errT 2 10 twoL 2 = 0 from by decide +kernel] at this
theorem take5 {w : World} {v : Value} (h : PIn w v twoL) : Calls Try.prog 9 #[.int .i64 2, .int .i64 10, v, .int .i64 5] w (ListPost aliveL 0 w) := by
  have := take_any 2 10 v twoL 5 w h
  rwa [show resT 2 10 twoL 5 = aliveL from by decide +kernel, show errT 2 10 twoL 5 = 0 from by decide +kernel] at this
theorem take6 {w : World} {v : Value} (h : PIn w v twoL) : Calls Try.prog 9 #[.int .i64 2, .int .i64 10, v, .int .i64 6] w (ListPost [] 30 w) := by
  have := take_any 2 10 v twoL 6 w h
  rwa [show resT 2 10 twoL 6 = [] from by decide +kernel, show errT 2 10 twoL 6 = 30 from by decide +kernel] at this
theorem joinRev : joinN revL = j3L := by
  rw [← foldW_join (s := [(3, 2), (5, 1)]) (l := revL) (by decide) (by unfold Up; decide) (goodB_iff.1 (by decide +kernel))]
  decide +kernel
theorem joinEx {w : World} {v : Value} (h : PIn w v revL) : Calls Try.prog 11 #[v] w (ListPost j3L 0 w) := by
  have := join_any v revL w h
  have e : errK 4096 revL = 0 := by decide +kernel
  rwa [show resJ revL = j3L from by unfold resJ; rw [if_pos e, joinRev], e] at this
def SectPost (xs : List Int) (e : Int) (w : World) (en : Ending) (w' : World) : Prop := ∃ q c, en = .returned (.tuple #[.slice q xs.length c, .int .i64 e]) ∧ IOwn w' w.heap.size (.slice q xs.length c) xs ∧ Below w.heap.size w w'
theorem sectEx {w : World} {v : Value} (h : PIn w v revL) : Calls Try.prog 12 #[v] w (SectPost [5, 3, 4] 0 w) := by
  have := sectors_any v revL w h
  rwa [show secsN revL = [5, 3, 4] from by decide +kernel, show errK 4096 revL = 0 from by decide +kernel] at this
theorem ckA {w : World} {v : Value} (h : PIn w v badA) : Calls Try.prog 14 #[.int .i64 10, v] w fun e w' => e = .returned (.int .i64 8) ∧ Below w.heap.size w w' := by
  have := check_any 10 v badA w h
  rwa [show errK 10 badA = 8 from by decide +kernel] at this
theorem ckB {w : World} {v : Value} (h : PIn w v badB) : Calls Try.prog 14 #[.int .i64 10, v] w fun e w' => e = .returned (.int .i64 8) ∧ Below w.heap.size w w' := by
  have := check_any 10 v badB w h
  rwa [show errK 10 badB = 8 from by decide +kernel] at this
theorem ckC {w : World} {v : Value} (h : PIn w v badC) : Calls Try.prog 14 #[.int .i64 10, v] w fun e w' => e = .returned (.int .i64 8) ∧ Below w.heap.size w w' := by
  have := check_any 10 v badC w h
  rwa [show errK 10 badC = 8 from by decide +kernel] at this
theorem ckD (w : World) : Calls Try.prog 14 #[.int .i64 4097, .slice none 0 0] w fun e w' => e = .returned (.int .i64 2) ∧ Below w.heap.size w w' := by
  have := check_any 4097 (.slice none 0 0) [] w ((pown_nil w 0).pin wf_nil)
  rwa [show errK 4097 [] = 2 from by decide +kernel] at this
theorem ints3 {w : World} {base : Nat} {q : Option Addr} {c : Nat} {a b d : Int} (h : IOwn w base (.slice q 3 c) [a, b, d]) : ∃ g, q = some ⟨g, 0, none⟩ ∧ g < w.heap.size ∧ w.cell? ⟨g, 0, none⟩ = some (.int .i64 a) ∧ w.cell? ⟨g, 2, none⟩ = some (.int .i64 d) ∧ 3 ≤ c := by
  rcases h.2 with ⟨_, h0⟩ | ⟨g, cap, cur, hv, _, hg, h1, _, _, _⟩
  · simp at h0
  · simp only [Value.slice.injEq] at hv
    obtain ⟨rfl, _, rfl⟩ := hv
    refine ⟨g, rfl, lt_heap hg, ?_, ?_, h1⟩
    · rw [World.ownsRow.cellAt h 0 (by simp)]; rfl
    · rw [World.ownsRow.cellAt h 2 (by simp)]; rfl
set_option maxHeartbeats 4000000 in
theorem walk (w : World) : Calls Try.prog 3 #[] w fun e w' => e = .returned (.bool true) ∧ Below w.heap.size w w' := by
  go_enter Try.func3, Try.ntmps3
  go_wp2_with fail
  refine (two_any _).mono ?_
  rintro e w1 ⟨b1, rfl, h1, hb1⟩
  have bel : Below w.heap.size w w1 := hb1
  go_wp2_with fail
  refine (take2 h1).mono ?_
  rintro e w2 ⟨q2, c2, rfl, ho2, hb2⟩
  replace bel : Below w.heap.size w w2 := below_bt bel hb2
  have FL : Hid (PIn w2 (.slice q2 (List.length (α := Int × Int) l2L) c2) l2L) := ho2.pin wf_l2L
  clear h1 ho2
  go_wp2_with fail
  refine (two_any _).mono ?_
  rintro e w3 ⟨b3, rfl, h3, hb3⟩
  replace FL : Hid (PIn w3 (.slice q2 (List.length (α := Int × Int) l2L) c2) l2L) := FL.out.below hb3
  replace bel : Below w.heap.size w w3 := below_bt bel hb3
  go_wp2_with fail
  refine (take5 h3).mono ?_
  rintro e w4 ⟨q4, c4, rfl, ho4, hb4⟩
  replace FL : Hid (PIn w4 (.slice q2 (List.length (α := Int × Int) l2L) c2) l2L) := FL.out.below hb4
  replace bel : Below w.heap.size w w4 := below_bt bel hb4
  have FM : Hid (PIn w4 (.slice q4 (List.length (α := Int × Int) aliveL) c4) aliveL) := ho4.pin wf_aliveL
  clear h3 ho4
  go_wp2_with fail
  refine (two_any _).mono ?_
  rintro e w5 ⟨b5, rfl, h5, hb5⟩
  replace FL : Hid (PIn w5 (.slice q2 (List.length (α := Int × Int) l2L) c2) l2L) := FL.out.below hb5
  replace FM : Hid (PIn w5 (.slice q4 (List.length (α := Int × Int) aliveL) c4) aliveL) := FM.out.below hb5
  replace bel : Below w.heap.size w w5 := below_bt bel hb5
  go_wp2_with fail
  refine (take6 h5).mono ?_
  rintro e w6 ⟨q6, c6, rfl, ho6, hb6⟩
  replace FL : Hid (PIn w6 (.slice q2 (List.length (α := Int × Int) l2L) c2) l2L) := FL.out.below hb6
  replace FM : Hid (PIn w6 (.slice q4 (List.length (α := Int × Int) aliveL) c4) aliveL) := FM.out.below hb6
  replace bel : Below w.heap.size w w6 := below_bt bel hb6
  clear h5 ho6
  go_wp2_with fail
  refine (joinEx (pin_block revL wf_revL (by decide) (heap_alloc_new _ _))).mono ?_
  rintro e w7 ⟨q7, c7, rfl, ho7, hb7⟩
  replace FL : Hid (PIn w7 (.slice q2 (List.length (α := Int × Int) l2L) c2) l2L) := FL.out.below (below_bt (below_alloc _ _) hb7)
  replace FM : Hid (PIn w7 (.slice q4 (List.length (α := Int × Int) aliveL) c4) aliveL) := FM.out.below (below_bt (below_alloc _ _) hb7)
  replace bel : Below w.heap.size w w7 := below_bt bel (below_bt (below_alloc _ _) hb7)
  have FN : Hid (PIn w7 (.slice q7 (List.length (α := Int × Int) j3L) c7) j3L) := ho7.pin wf_j3L
  clear ho7
  go_wp2_with fail
  refine (sectEx (pin_block revL wf_revL (by decide) (heap_alloc_new _ _))).mono ?_
  rintro e w8 ⟨q8, c8, rfl, ho8, hb8⟩
  replace FL : Hid (PIn w8 (.slice q2 (List.length (α := Int × Int) l2L) c2) l2L) := FL.out.below (below_bt (below_alloc _ _) hb8)
  replace FM : Hid (PIn w8 (.slice q4 (List.length (α := Int × Int) aliveL) c4) aliveL) := FM.out.below (below_bt (below_alloc _ _) hb8)
  replace FN : Hid (PIn w8 (.slice q7 (List.length (α := Int × Int) j3L) c7) j3L) := FN.out.below (below_bt (below_alloc _ _) hb8)
  replace bel : Below w.heap.size w w8 := below_bt bel (below_bt (below_alloc _ _) hb8)
  have FS : Hid (IOwn w8 w7.heap.size (.slice q8 3 c8) [5, 3, 4]) := ho8.mono (by simp)
  clear ho8
  go_wp2_with fail
  refine (same_any _ _ l2L l2L _ (FL.out.below (below_alloc _ _)) (pin_block l2L wf_l2L (by decide) (heap_alloc_new _ _))).mono ?_
  rintro e w9 ⟨rfl, hb9⟩
  rw [sameB_yes rfl]
  replace FL : Hid (PIn w9 (.slice q2 (List.length (α := Int × Int) l2L) c2) l2L) := FL.out.below (below_bt (below_alloc _ _) hb9)
  replace FM : Hid (PIn w9 (.slice q4 (List.length (α := Int × Int) aliveL) c4) aliveL) := FM.out.below (below_bt (below_alloc _ _) hb9)
  replace FN : Hid (PIn w9 (.slice q7 (List.length (α := Int × Int) j3L) c7) j3L) := FN.out.below (below_bt (below_alloc _ _) hb9)
  replace FS : Hid (IOwn w9 w7.heap.size (.slice q8 3 c8) [5, 3, 4]) := FS.out.below (below_bt (below_alloc _ _) hb9)
  replace bel : Below w.heap.size w w9 := below_bt bel (below_bt (below_alloc _ _) hb9)
  go_wp2_with fail
  refine (same_any _ _ aliveL aliveL _ (FM.out.below (below_alloc _ _)) (pin_block aliveL wf_aliveL (by decide) (heap_alloc_new _ _))).mono ?_
  rintro e w10 ⟨rfl, hb10⟩
  rw [sameB_yes rfl]
  replace FL : Hid (PIn w10 (.slice q2 (List.length (α := Int × Int) l2L) c2) l2L) := FL.out.below (below_bt (below_alloc _ _) hb10)
  replace FM : Hid (PIn w10 (.slice q4 (List.length (α := Int × Int) aliveL) c4) aliveL) := FM.out.below (below_bt (below_alloc _ _) hb10)
  replace FN : Hid (PIn w10 (.slice q7 (List.length (α := Int × Int) j3L) c7) j3L) := FN.out.below (below_bt (below_alloc _ _) hb10)
  replace FS : Hid (IOwn w10 w7.heap.size (.slice q8 3 c8) [5, 3, 4]) := FS.out.below (below_bt (below_alloc _ _) hb10)
  replace bel : Below w.heap.size w w10 := below_bt bel (below_bt (below_alloc _ _) hb10)
  go_wp2_with fail
  refine (same_any _ _ j3L j3L _ (FN.out.below (below_alloc _ _)) (pin_block j3L wf_j3L (by decide) (heap_alloc_new _ _))).mono ?_
  rintro e w11 ⟨rfl, hb11⟩
  rw [sameB_yes rfl]
  replace FL : Hid (PIn w11 (.slice q2 (List.length (α := Int × Int) l2L) c2) l2L) := FL.out.below (below_bt (below_alloc _ _) hb11)
  replace FM : Hid (PIn w11 (.slice q4 (List.length (α := Int × Int) aliveL) c4) aliveL) := FM.out.below (below_bt (below_alloc _ _) hb11)
  replace FN : Hid (PIn w11 (.slice q7 (List.length (α := Int × Int) j3L) c7) j3L) := FN.out.below (below_bt (below_alloc _ _) hb11)
  replace FS : Hid (IOwn w11 w7.heap.size (.slice q8 3 c8) [5, 3, 4]) := FS.out.below (below_bt (below_alloc _ _) hb11)
  replace bel : Below w.heap.size w w11 := below_bt bel (below_bt (below_alloc _ _) hb11)
  obtain ⟨g, rfl, hgb, x0, x2, hcap⟩ := ints3 FS.out
  clear FS FL FM FN
  go_wp2_with fail
  refine (ckA (pin_block badA wf_badA (by decide) (heap_alloc_new _ _))).mono ?_
  rintro e w12 ⟨rfl, hb12⟩
  replace bel : Below w.heap.size w w12 := below_bt bel (below_bt (below_alloc _ _) hb12)
  go_wp2_with fail
  refine (ckB (pin_block badB wf_badB (by decide) (heap_alloc_new _ _))).mono ?_
  rintro e w13 ⟨rfl, hb13⟩
  replace bel : Below w.heap.size w w13 := below_bt bel (below_bt (below_alloc _ _) hb13)
  go_wp2_with fail
  refine (ckC (pin_block badC wf_badC (by decide) (heap_alloc_new _ _))).mono ?_
  rintro e w14 ⟨rfl, hb14⟩
  replace bel : Below w.heap.size w w14 := below_bt bel (below_bt (below_alloc _ _) hb14)
  go_wp2_with fail
  refine (ckD _).mono ?_
  rintro e w15 ⟨rfl, hb15⟩
  replace bel : Below w.heap.size w w15 := below_bt bel hb15
  go_wp2_with fail
  refine (alive_any _).mono ?_
  rintro e w16 ⟨rfl, hb16⟩
  replace bel : Below w.heap.size w w16 := below_bt bel hb16
  go_wp2
  go_ret
  exact ⟨rfl, bel⟩

/-! ### THE ROW's STEP -/
set_option maxRecDepth 100000 in
theorem lifted (os : Os) (started : os.Started) (H : Type) (enc : TypeId × Value → H) :
    ReturnsInHanded {} Try.checked os 3 .any (Rows.roomNamesSpec.pre6 enc Try.prog Try.f3 Rows.roomNamesRow.domain false) (Rows.roomNamesSpec.post enc Try.prog Try.f3 false true false false) := by
  refine returnsInHanded_of_change (C := Try.checked) own started (by kernel_rfl) Try.func3
    (ChangeSpec.witness6 (enc := enc) (C := Try.checked) false ⟨#[], #[], []⟩ 8 (by kernel_rfl) (by kernel_rfl) (by kernel_rfl) (by kernel_rfl)) ?_
  intro W base args ds gs before hval0 hW hcnd _
  have hval : ∀ (j : Nat) t v, Try.f3.params[j]? = some t → args[j]? = some v → Value.okWide Try.prog W .any base t v := hval0
  have hW' := hW
  obtain ⟨p, q, hA0, hV, rfl, hfz, hnd⟩ := hW
  have hA : DataW.TrodAll enc Try.prog W 0 (fun _ => true) true Try.f3.params.toList args.toList ds p := hA0
  rw [Try.params3] at hA hval
  obtain ⟨rfl, rfl, rfl⟩ := trodAll_none hA
  obtain ⟨rfl, rfl⟩ := trodVars_none hV
  clear hA0 hval0
  refine (walk  W ).mono fun e W' ⟨he, bel⟩ => ?_
  subst he
  exact ⟨_, rfl, _, _, _, [], _, [], hW', trodAll_mk1 (shut_bool Try.underlying4 _), rfl, rfl, bel.frame _, fun h => by cases h⟩

theorem over : Rows.roomNamesRow.holds Try.pinned (OpenSpec.ofChange Rows.roomNamesSpec) :=
  OpenClaim.holds_of_wide 3 Try.f3 rfl rfl rfl rfl rfl rfl rfl ⟨rfl, rfl, rfl, rfl, rfl⟩ rfl rfl rfl rfl rfl (by kernel_rfl) Try.func3 (by kernel_rfl)
    (of_decide_eq_true (by kernel_rfl)) (by unfold Func.isWrapper; first | (rw [if_pos (by decide +kernel)]; kernel_rfl) | (rw [if_neg (by decide +kernel)]; exact ⟨rfl, rfl⟩))
    (fun os started H enc _ => lifted os started H enc)

theorem proved : Rows.RoomNamesSaid := over
end Go.Proofs.Ytfplpdnhhefbaaa.roomNames
namespace Go.Proofs.Ytfplpdnhhefbaaa
theorem roomNames_holds : Rows.RoomNamesSaid := roomNames.proved
#print axioms roomNames_holds
end Go.Proofs.Ytfplpdnhhefbaaa
