/-
  Sealed: the program's.
-/
import Derived.Test.YtoagaddciapmkaaDoorXKey
import Derived.Deep.CutRange
namespace Go.Proofs.YtoagaddciapmkaaDoor
open Go.RowKit Go.WideShapes

theorem below_up {B : Nat} {a b c : World} (h : Below B a b) (hb : Below b.heap.size b c) (hB : B ≤ b.heap.size := by first | assumption | omega) : Below B a c :=
  h.trans ⟨hb.os, hb.tape, hb.output, hb.size, fun k hk => hb.block k (Nat.lt_of_lt_of_le hk hB)⟩
theorem below_dr {B : Nat} {a b : World} (h : Below B a b) : Below B a b.drew := h.drew
theorem le_of_below {B : Nat} {a b : World} (hB : B ≤ a.heap.size) (h : Below B a b) : B ≤ b.heap.size := Nat.le_trans hB h.size
theorem row_lt {w : World} {g : Nat} {o : Obj} (h : w.heap[g]? = some o) : g < w.heap.size := (Array.getElem?_eq_some_iff.1 h).1
theorem keyN_byte {s : List Nat} (h : ∀ x ∈ s, x < 256) : ∀ x ∈ keyN s, x < 256 := by
  intro x hx
  unfold keyN at hx
  rcases List.mem_append.1 hx with h' | h'
  · split at h'
    · exact digN_byte _ x h'
    · exact h x h'
  · have := List.eq_of_mem_replicate h'; omega
theorem xor_byte {l : List Nat} {c : Nat} (h : ∀ x ∈ l, x < 256) (hc : c < 256) : ∀ x ∈ l.map (· ^^^ c), x < 256 := by
  intro x hx
  simp only [List.mem_map] at hx
  obtain ⟨a, ha, rfl⟩ := hx
  exact Nat.xor_lt_two_pow (n := 8) (h a ha) hc
set_option maxHeartbeats 4000000 in
set_option maxRecDepth 100000 in
theorem sealed_any (p q : Option Addr) (c d : Nat) (xs ys : List Nat) (w : World) (hk : KOn w) (hb : BIn w p xs) (hc : xs.length ≤ c) (hb2 : BIn w q ys) (hd : ys.length ≤ d) (hsz : xs.length < 100000000) (hsz2 : ys.length < 100000000) :
    Calls Tryd.prog 12 #[.slice p xs.length c, .slice q ys.length d] w fun e w' => e = .returned (.agg (Bs (sealN xs ys)).toArray) ∧ Below w.heap.size w w' := by
  have B1 : Below w.heap.size w (w.alloc (Obj.cells (Bs (List.replicate 32 0)).toArray 23)) := (Below.refl _ _).alloc (Nat.le_refl _) _
  have N1 : (w.alloc (Obj.cells (Bs (List.replicate 32 0)).toArray 23)).heap[w.heap.size]? = some (.cells (Bs (List.replicate 32 0)).toArray 23 (0, 0)) := _root_.Go.heap_alloc_new _ _
  have KO := keyOf_any p c xs _ (hk.below B1 hk.pos) (hb.below B1) hc (by omega)
  have hkl := keyN_len xs
  have hkb := keyN_byte hb.2
  have hsl : sealN xs ys = digN ((keyN xs).map (· ^^^ 92) ++ digN ((keyN xs).map (· ^^^ 54) ++ ys)) := rfl
  generalize keyN xs = KEY at KO hkl hkb hsl
  have CH54 := fun w' => changed_any KEY 54 w' hkl hkb (by decide)
  have CH92 := fun w' => changed_any KEY 92 w' hkl hkb (by decide)
  have b54 : ∀ x ∈ KEY.map (· ^^^ 54), x < 256 := xor_byte hkb (by decide)
  have b92 : ∀ x ∈ KEY.map (· ^^^ 92), x < 256 := xor_byte hkb (by decide)
  have l54 : (KEY.map (· ^^^ 54)).length = 64 := by rw [List.length_map, hkl]
  have l92 : (KEY.map (· ^^^ 92)).length = 64 := by rw [List.length_map, hkl]
  generalize KEY.map (· ^^^ 54) = K54 at CH54 b54 l54 hsl
  generalize KEY.map (· ^^^ 92) = K92 at CH92 b92 l92 hsl
  have hl54 : (Bs K54).toArray.size = 64 := by simp [Bs, l54]
  have hl92 : (Bs K92).toArray.size = 64 := by simp [Bs, l92]
  have hs54 : (Tryd.prog.info? 66).map (·.size) = some (Bs K54).toArray.size := by rw [size_block, hl54]
  have hs92 : (Tryd.prog.info? 66).map (·.size) = some (Bs K92).toArray.size := by rw [size_block, hl92]
  have hu39 := Tryd.underlying66
  have hi39 : (Tryd.prog.info? 66).map (·.size) = some (Bs KEY).length := by rw [size_block, Bs_len, hkl]
  have hKa : (Bs KEY).toArray.size = 64 := by simp [Bs, hkl]
  go_enter Tryd.func12, Tryd.ntmps12
  go_wp2_with fail
  refine KO.mono ?_
  rintro e w1 ⟨rfl, hb1⟩
  simp only []
  go_step
  go_step
  go_step
  go_step
  refine wpList_store_row rfl 66 (.tmp 5) (.tmp 10) rfl w1.heap.size (Bs KEY).toArray (by rfl) (by rfl) 66 _ (_root_.Go.heap_alloc_new _ _) (by rw [size_block, hKa]) (by rw [hKa]; rfl) (one_cell_bs _) ?_
  rw [World.setRow_alloc_new]
  have hs1 := hb1.size
  have hs1' : w.heap.size + 1 ≤ w1.heap.size := by simpa using hs1
  have BW : Below w.heap.size w (w1.alloc (Obj.cells (Bs KEY).toArray 66)) := (B1.trans ⟨hb1.os, hb1.tape, hb1.output, hb1.size, fun k hk' => hb1.block k (by simp; omega)⟩).alloc (by omega) _
  have N0 : (w1.alloc (Obj.cells (Bs KEY).toArray 66)).heap[w.heap.size]? = some (.cells (Bs (List.replicate 32 0)).toArray 23 (0, 0)) := by
    rw [_root_.Go.heap_alloc_old _ _ (by omega), hb1.block _ (by simp)]; exact N1
  have NK : (w1.alloc (Obj.cells (Bs KEY).toArray 66)).heap[w1.heap.size]? = some (.cells (Bs KEY).toArray 66 (0, 0)) := _root_.Go.heap_alloc_new _ _
  generalize w1.heap.size = k0 at NK ⊢
  generalize w1.alloc (Obj.cells (Bs KEY).toArray 66) = WR at BW N0 NK ⊢
  clear hb1 hs1 hs1' KO B1 N1
  obtain ⟨W0, hW0⟩ : ∃ W0, WR = W0 := ⟨_, rfl⟩
  obtain ⟨B0, hB0e⟩ : ∃ B0, WR.heap.size = B0 := ⟨_, rfl⟩
  have hB0 : B0 ≤ W0.heap.size := by rw [← hW0, hB0e]; exact Nat.le_refl _
  have hB : Below B0 W0 WR := by rw [hW0]; exact Below.refl _ _
  have hk0 : k0 < B0 := by rw [← hB0e]; exact row_lt NK
  have LB : Hid (∀ w', Below B0 W0 w' → w'.rangeAt k0 0 (Bs KEY)) := fun w' h j v hv => by
    rw [Nat.zero_add, cell_block (h.block k0 hk0), ← hW0, cell_of_row _ _ _ _ _ _ NK]
    simpa using hv
  have hN0 : Hid (∀ w', Below B0 W0 w' → w'.heap[w.heap.size]? = some (.cells (Bs (List.replicate 32 0)).toArray 23 (0, 0)) ∧ Below w.heap.size w w') := fun w' h => by
    refine ⟨by rw [h.block _ (by rw [← hB0e]; exact row_lt N0), ← hW0]; exact N0, BW.trans ⟨by rw [h.os, hW0], by rw [h.tape, hW0], by rw [h.output, hW0], by rw [hW0]; exact h.size, fun j hj => by rw [h.block j (by rw [← hB0e]; exact Nat.lt_of_lt_of_le hj BW.size), hW0]⟩⟩
  clear hB0e NK N0 BW hW0
  go_upto_region 2 with fail
  simp only [Act.put]
  go_cut [6, 7] from 11 (fun s6 s7 w5 => ∃ A B, s6 = .pointer (some ⟨A, 0, none⟩) ∧ s7 = .pointer (some ⟨B, 0, none⟩) ∧ w5.heap[A]? = some (.cells (Bs K54).toArray 66 (0, 0)) ∧ w5.heap[B]? = some (.cells (Bs K92).toArray 66 (0, 0)) ∧ B0 ≤ A ∧ B0 ≤ B ∧ Below B0 W0 w5)
  case first =>
    refine wp_region_noPanic ?_
    refine wp_region_held_drew (S := fun w' => w'.rangeAt k0 0 (Bs KEY)) (by kernel_rfl) (LB.out _ (below_dr hB)) (fun hHeld => ?_)
    refine wpAnyH_take (i := 0) (oi := { dst := some 11, op := Op.load 66 (Operand.tmp 5), type := 66, pos := "hash.go:60", after := #[], guard := none }) (v := .agg (Bs KEY).toArray) rfl (by kernel_rfl) (by kernel_rfl) (by kernel_rfl) (fun _ _ _ h => h) (yieldsIf_load_mid (by rfl) _ _ rfl k0 0 rfl (Bs KEY) _ (fun w' hSw => hSw) hu39 rfl hi39) (by assumption) ?_
    simp only [Act.put, List.setIfInBounds_toArray, List.set_cons_zero, List.set_cons_succ]
    refine wpAnyH_take (i := 2) (oi := { dst := some 13, op := Op.load 66 (Operand.tmp 5), type := 66, pos := "hash.go:60", after := #[], guard := none }) (v := .agg (Bs KEY).toArray) rfl (by kernel_rfl) (by kernel_rfl) (by kernel_rfl) (fun _ _ _ h => h) (yieldsIf_load_mid (by rfl) _ _ rfl k0 0 rfl (Bs KEY) _ (fun w' hSw => hSw) hu39 rfl hi39) (by assumption) ?_
    simp only [Act.put, List.setIfInBounds_toArray, List.set_cons_zero, List.set_cons_succ]
    have bb0 : Below B0 W0 WR.drew := below_dr hB
    refine wpAnyH_ready (rs := [1, 4, 5]) (by kernel_rfl) (by simp) ?_
    refine AllReadyH.cons (o := { dst := some 12, op := Op.call { callee := Callee.value (Operand.func 39), args := #[Operand.tmp 11, Operand.const (Value.int IntKind.u8 54)], argTypes := #[66, 5] }, type := 66, pos := "hash.go:60", after := #[{ on := 0, ground := Ground.data }], guard := none }) rfl (fun K hK => ?_) (AllReadyH.cons (o := { dst := some 6, op := Op.alloc 66, type := 0, pos := "hash.go:60", after := #[], guard := none }) rfl (fun K hK => ?_) (AllReadyH.cons (o := { dst := some 7, op := Op.alloc 66, type := 0, pos := "hash.go:60", after := #[], guard := none }) rfl (fun K hK => ?_) AllReadyH.nil))
    · go_simp
      refine (CH54 _).mono ?_
      rintro e w1_ ⟨rfl, hb⟩
      have bb1 : Below B0 W0 w1_ := below_up bb0 hb (le_of_below hB0 bb0)
      simp only []
      refine hK.out _ _ (LB.out _ bb1) (fun hHeld1 => ?_)
      clear hK K hb
      refine wpAnyH_ready (rs := [3, 4, 5]) (by kernel_rfl) (by simp) ?_
      refine AllReadyH.cons (o := { dst := some 14, op := Op.call { callee := Callee.value (Operand.func 39), args := #[Operand.tmp 13, Operand.const (Value.int IntKind.u8 92)], argTypes := #[66, 5] }, type := 66, pos := "hash.go:60", after := #[{ on := 2, ground := Ground.data }, { on := 1, ground := Ground.chain }], guard := none }) rfl (fun K hK => ?_) (AllReadyH.cons (o := { dst := some 6, op := Op.alloc 66, type := 0, pos := "hash.go:60", after := #[], guard := none }) rfl (fun K hK => ?_) (AllReadyH.cons (o := { dst := some 7, op := Op.alloc 66, type := 0, pos := "hash.go:60", after := #[], guard := none }) rfl (fun K hK => ?_) AllReadyH.nil))
      · go_simp
        refine (CH92 _).mono ?_
        rintro e w2_ ⟨rfl, hb⟩
        have bb2 : Below B0 W0 w2_ := below_up bb1 hb (le_of_below hB0 bb1)
        simp only []
        refine hK.out _ _ (LB.out _ bb2) (fun hHeld2 => ?_)
        clear hK K hb
        refine wpAnyH_ready (rs := [4, 5]) (by kernel_rfl) (by simp) ?_
        refine AllReadyH.cons (o := { dst := some 6, op := Op.alloc 66, type := 0, pos := "hash.go:60", after := #[], guard := none }) rfl (fun K hK => ?_) (AllReadyH.cons (o := { dst := some 7, op := Op.alloc 66, type := 0, pos := "hash.go:60", after := #[], guard := none }) rfl (fun K hK => ?_) AllReadyH.nil)
        · go_simp
          have bb3 : Below B0 W0 (World.alloc w2_ (.cells (Bs (List.replicate 64 0)).toArray 66)) := bb2.alloc (le_of_below hB0 bb2) _
          have rn3 : (World.alloc w2_ (.cells (Bs (List.replicate 64 0)).toArray 66)).heap[(World.heap w2_).size]? = some (.cells (Bs (List.replicate 64 0)).toArray 66 (0, 0)) := _root_.Go.heap_alloc_new _ _
          have hg3 : B0 ≤ (World.heap w2_).size := le_of_below hB0 bb2
          refine hK.out _ _ (LB.out _ bb3) (fun hHeld3 => ?_)
          clear hK K
          change wpAnyH _ _ _ _ _ _ _ _ (World.alloc w2_ (.cells (Bs (List.replicate 64 0)).toArray 66))
          generalize World.alloc w2_ (.cells (Bs (List.replicate 64 0)).toArray 66) = w3_ at *
          generalize (World.heap w2_).size = g3_ at *
          refine wpAnyH_ready (rs := [5]) (by kernel_rfl) (by simp) ?_
          refine AllReadyH.cons (o := { dst := some 7, op := Op.alloc 66, type := 0, pos := "hash.go:60", after := #[], guard := none }) rfl (fun K hK => ?_) AllReadyH.nil
          · go_simp
            have bb4 : Below B0 W0 (World.alloc w3_ (.cells (Bs (List.replicate 64 0)).toArray 66)) := bb3.alloc (le_of_below hB0 bb3) _
            have rn4 : (World.alloc w3_ (.cells (Bs (List.replicate 64 0)).toArray 66)).heap[(World.heap w3_).size]? = some (.cells (Bs (List.replicate 64 0)).toArray 66 (0, 0)) := _root_.Go.heap_alloc_new _ _
            have ra4 : (World.alloc w3_ (.cells (Bs (List.replicate 64 0)).toArray 66)).heap[g3_]? = some (.cells (Bs (List.replicate 64 0)).toArray 66 (0, 0)) := (_root_.Go.heap_alloc_old _ _ (row_lt rn3)).trans rn3
            have ne4 : g3_ ≠ (World.heap w3_).size := by have := row_lt rn3; omega
            have hg4 : B0 ≤ (World.heap w3_).size := le_of_below hB0 bb3
            refine hK.out _ _ (LB.out _ bb4) (fun hHeld4 => ?_)
            clear hK K
            change wpAnyH _ _ _ _ _ _ _ _ (World.alloc w3_ (.cells (Bs (List.replicate 64 0)).toArray 66))
            generalize World.alloc w3_ (.cells (Bs (List.replicate 64 0)).toArray 66) = w4_ at *
            generalize (World.heap w3_).size = g4_ at *
            refine wpAnyH_ready (rs := [6]) (by kernel_rfl) (by simp) ?_
            refine AllReadyH.cons (o := { dst := none, op := Op.store 66 (Operand.tmp 6) (Operand.tmp 12), type := 0, pos := "hash.go:60", after := #[{ on := 4, ground := Ground.data }, { on := 1, ground := Ground.data }, { on := 3, ground := Ground.chain }, { on := 0, ground := Ground.phase }, { on := 1, ground := Ground.phase }, { on := 2, ground := Ground.textOnly Departure.lateStores }, { on := 3, ground := Ground.phase }, { on := 4, ground := Ground.phase }, { on := 5, ground := Ground.phase }], guard := none }) rfl (fun K hK => ?_) AllReadyH.nil
            rw [if_pos (by rfl)]
            refine wp_store_row 66 (.tmp 6) (.tmp 12) rfl g3_ (Bs K54).toArray (by rfl) (by rfl) 66 _ ra4 hs54 (by rw [hl54]; rfl) (one_cell_bs _) ?_
            have bs5 := below_setRow (cs := (Bs K54).toArray) bb4 (g := g3_) (by omega)
            have r1 := setRow_heap _ _ _ (Bs K54).toArray _ _ ra4
            have r2 := (setRow_other w4_ g3_ g4_ (Bs K54).toArray (by omega)).trans rn4
            simp only [Act.put]
            refine hK.out _ _ (LB.out _ bs5) (fun hHeldA => ?_)
            clear hK K
            refine wpAnyH_ready (rs := [7]) (by kernel_rfl) (by simp) ?_
            refine AllReadyH.cons (o := { dst := none, op := Op.store 66 (Operand.tmp 7) (Operand.tmp 14), type := 0, pos := "hash.go:60", after := #[{ on := 5, ground := Ground.data }, { on := 3, ground := Ground.data }, { on := 6, ground := Ground.chain }, { on := 0, ground := Ground.phase }, { on := 1, ground := Ground.phase }, { on := 2, ground := Ground.phase }, { on := 3, ground := Ground.phase }, { on := 4, ground := Ground.phase }, { on := 5, ground := Ground.phase }, { on := 6, ground := Ground.phase }], guard := none }) rfl (fun K hK => ?_) AllReadyH.nil
            rw [if_pos (by rfl)]
            refine wp_store_row 66 (.tmp 7) (.tmp 14) rfl g4_ (Bs K92).toArray (by rfl) (by rfl) 66 _ r2 hs92 (by rw [hl92]; rfl) (one_cell_bs _) ?_
            have bt5 := below_setRow (cs := (Bs K92).toArray) bs5 (g := g4_) (by omega)
            have r3 := setRow_heap _ _ _ (Bs K92).toArray _ _ r2
            have r4 := (setRow_other _ g4_ g3_ (Bs K92).toArray (by omega)).trans r1
            simp only [Act.put]
            refine hK.out _ _ (LB.out _ bt5) (fun hHeldB => ?_)
            clear hK K
            refine wpAnyH_done (by kernel_rfl) (NoPanic.normal ?_) _
            go_wp2
            go_meet
            case rel => exact ⟨g3_, g4_, rfl, rfl, r4, r3, by omega, by omega, bt5⟩
        · go_simp
          have bb6 : Below B0 W0 (World.alloc w2_ (.cells (Bs (List.replicate 64 0)).toArray 66)) := bb2.alloc (le_of_below hB0 bb2) _
          have rn6 : (World.alloc w2_ (.cells (Bs (List.replicate 64 0)).toArray 66)).heap[(World.heap w2_).size]? = some (.cells (Bs (List.replicate 64 0)).toArray 66 (0, 0)) := _root_.Go.heap_alloc_new _ _
          have hg6 : B0 ≤ (World.heap w2_).size := le_of_below hB0 bb2
          refine hK.out _ _ (LB.out _ bb6) (fun hHeld6 => ?_)
          clear hK K
          change wpAnyH _ _ _ _ _ _ _ _ (World.alloc w2_ (.cells (Bs (List.replicate 64 0)).toArray 66))
          generalize World.alloc w2_ (.cells (Bs (List.replicate 64 0)).toArray 66) = w6_ at *
          generalize (World.heap w2_).size = g6_ at *
          refine wpAnyH_ready (rs := [4]) (by kernel_rfl) (by simp) ?_
          refine AllReadyH.cons (o := { dst := some 6, op := Op.alloc 66, type := 0, pos := "hash.go:60", after := #[], guard := none }) rfl (fun K hK => ?_) AllReadyH.nil
          · go_simp
            have bb7 : Below B0 W0 (World.alloc w6_ (.cells (Bs (List.replicate 64 0)).toArray 66)) := bb6.alloc (le_of_below hB0 bb6) _
            have rn7 : (World.alloc w6_ (.cells (Bs (List.replicate 64 0)).toArray 66)).heap[(World.heap w6_).size]? = some (.cells (Bs (List.replicate 64 0)).toArray 66 (0, 0)) := _root_.Go.heap_alloc_new _ _
            have rb7 : (World.alloc w6_ (.cells (Bs (List.replicate 64 0)).toArray 66)).heap[g6_]? = some (.cells (Bs (List.replicate 64 0)).toArray 66 (0, 0)) := (_root_.Go.heap_alloc_old _ _ (row_lt rn6)).trans rn6
            have ne7 : (World.heap w6_).size ≠ g6_ := by have := row_lt rn6; omega
            have hg7 : B0 ≤ (World.heap w6_).size := le_of_below hB0 bb6
            refine hK.out _ _ (LB.out _ bb7) (fun hHeld7 => ?_)
            clear hK K
            change wpAnyH _ _ _ _ _ _ _ _ (World.alloc w6_ (.cells (Bs (List.replicate 64 0)).toArray 66))
            generalize World.alloc w6_ (.cells (Bs (List.replicate 64 0)).toArray 66) = w7_ at *
            generalize (World.heap w6_).size = g7_ at *
            refine wpAnyH_ready (rs := [6]) (by kernel_rfl) (by simp) ?_
            refine AllReadyH.cons (o := { dst := none, op := Op.store 66 (Operand.tmp 6) (Operand.tmp 12), type := 0, pos := "hash.go:60", after := #[{ on := 4, ground := Ground.data }, { on := 1, ground := Ground.data }, { on := 3, ground := Ground.chain }, { on := 0, ground := Ground.phase }, { on := 1, ground := Ground.phase }, { on := 2, ground := Ground.textOnly Departure.lateStores }, { on := 3, ground := Ground.phase }, { on := 4, ground := Ground.phase }, { on := 5, ground := Ground.phase }], guard := none }) rfl (fun K hK => ?_) AllReadyH.nil
            rw [if_pos (by rfl)]
            refine wp_store_row 66 (.tmp 6) (.tmp 12) rfl g7_ (Bs K54).toArray (by rfl) (by rfl) 66 _ rn7 hs54 (by rw [hl54]; rfl) (one_cell_bs _) ?_
            have bs8 := below_setRow (cs := (Bs K54).toArray) bb7 (g := g7_) (by omega)
            have r1 := setRow_heap _ _ _ (Bs K54).toArray _ _ rn7
            have r2 := (setRow_other w7_ g7_ g6_ (Bs K54).toArray (by omega)).trans rb7
            simp only [Act.put]
            refine hK.out _ _ (LB.out _ bs8) (fun hHeldA => ?_)
            clear hK K
            refine wpAnyH_ready (rs := [7]) (by kernel_rfl) (by simp) ?_
            refine AllReadyH.cons (o := { dst := none, op := Op.store 66 (Operand.tmp 7) (Operand.tmp 14), type := 0, pos := "hash.go:60", after := #[{ on := 5, ground := Ground.data }, { on := 3, ground := Ground.data }, { on := 6, ground := Ground.chain }, { on := 0, ground := Ground.phase }, { on := 1, ground := Ground.phase }, { on := 2, ground := Ground.phase }, { on := 3, ground := Ground.phase }, { on := 4, ground := Ground.phase }, { on := 5, ground := Ground.phase }, { on := 6, ground := Ground.phase }], guard := none }) rfl (fun K hK => ?_) AllReadyH.nil
            rw [if_pos (by rfl)]
            refine wp_store_row 66 (.tmp 7) (.tmp 14) rfl g6_ (Bs K92).toArray (by rfl) (by rfl) 66 _ r2 hs92 (by rw [hl92]; rfl) (one_cell_bs _) ?_
            have bt8 := below_setRow (cs := (Bs K92).toArray) bs8 (g := g6_) (by omega)
            have r3 := setRow_heap _ _ _ (Bs K92).toArray _ _ r2
            have r4 := (setRow_other _ g6_ g7_ (Bs K92).toArray (by omega)).trans r1
            simp only [Act.put]
            refine hK.out _ _ (LB.out _ bt8) (fun hHeldB => ?_)
            clear hK K
            refine wpAnyH_done (by kernel_rfl) (NoPanic.normal ?_) _
            go_wp2
            go_meet
            case rel => exact ⟨g7_, g6_, rfl, rfl, r4, r3, by omega, by omega, bt8⟩
      · go_simp
        have bb9 : Below B0 W0 (World.alloc w1_ (.cells (Bs (List.replicate 64 0)).toArray 66)) := bb1.alloc (le_of_below hB0 bb1) _
        have rn9 : (World.alloc w1_ (.cells (Bs (List.replicate 64 0)).toArray 66)).heap[(World.heap w1_).size]? = some (.cells (Bs (List.replicate 64 0)).toArray 66 (0, 0)) := _root_.Go.heap_alloc_new _ _
        have hg9 : B0 ≤ (World.heap w1_).size := le_of_below hB0 bb1
        refine hK.out _ _ (LB.out _ bb9) (fun hHeld9 => ?_)
        clear hK K
        change wpAnyH _ _ _ _ _ _ _ _ (World.alloc w1_ (.cells (Bs (List.replicate 64 0)).toArray 66))
        generalize World.alloc w1_ (.cells (Bs (List.replicate 64 0)).toArray 66) = w9_ at *
        generalize (World.heap w1_).size = g9_ at *
        refine wpAnyH_ready (rs := [3, 5]) (by kernel_rfl) (by simp) ?_
        refine AllReadyH.cons (o := { dst := some 14, op := Op.call { callee := Callee.value (Operand.func 39), args := #[Operand.tmp 13, Operand.const (Value.int IntKind.u8 92)], argTypes := #[66, 5] }, type := 66, pos := "hash.go:60", after := #[{ on := 2, ground := Ground.data }, { on := 1, ground := Ground.chain }], guard := none }) rfl (fun K hK => ?_) (AllReadyH.cons (o := { dst := some 7, op := Op.alloc 66, type := 0, pos := "hash.go:60", after := #[], guard := none }) rfl (fun K hK => ?_) AllReadyH.nil)
        · go_simp
          refine (CH92 _).mono ?_
          rintro e w10_ ⟨rfl, hb⟩
          have bb10 : Below B0 W0 w10_ := below_up bb9 hb (le_of_below hB0 bb9)
          have ra10 : w10_.heap[g9_]? = some (.cells (Bs (List.replicate 64 0)).toArray 66 (0, 0)) := (hb.block _ (row_lt rn9)).trans rn9
          simp only []
          refine hK.out _ _ (LB.out _ bb10) (fun hHeld10 => ?_)
          clear hK K hb
          refine wpAnyH_ready (rs := [5]) (by kernel_rfl) (by simp) ?_
          refine AllReadyH.cons (o := { dst := some 7, op := Op.alloc 66, type := 0, pos := "hash.go:60", after := #[], guard := none }) rfl (fun K hK => ?_) AllReadyH.nil
          · go_simp
            have bb11 : Below B0 W0 (World.alloc w10_ (.cells (Bs (List.replicate 64 0)).toArray 66)) := bb10.alloc (le_of_below hB0 bb10) _
            have rn11 : (World.alloc w10_ (.cells (Bs (List.replicate 64 0)).toArray 66)).heap[(World.heap w10_).size]? = some (.cells (Bs (List.replicate 64 0)).toArray 66 (0, 0)) := _root_.Go.heap_alloc_new _ _
            have ra11 : (World.alloc w10_ (.cells (Bs (List.replicate 64 0)).toArray 66)).heap[g9_]? = some (.cells (Bs (List.replicate 64 0)).toArray 66 (0, 0)) := (_root_.Go.heap_alloc_old _ _ (row_lt ra10)).trans ra10
            have ne11 : g9_ ≠ (World.heap w10_).size := by have := row_lt ra10; omega
            have hg11 : B0 ≤ (World.heap w10_).size := le_of_below hB0 bb10
            refine hK.out _ _ (LB.out _ bb11) (fun hHeld11 => ?_)
            clear hK K
            change wpAnyH _ _ _ _ _ _ _ _ (World.alloc w10_ (.cells (Bs (List.replicate 64 0)).toArray 66))
            generalize World.alloc w10_ (.cells (Bs (List.replicate 64 0)).toArray 66) = w11_ at *
            generalize (World.heap w10_).size = g11_ at *
            refine wpAnyH_ready (rs := [6]) (by kernel_rfl) (by simp) ?_
            refine AllReadyH.cons (o := { dst := none, op := Op.store 66 (Operand.tmp 6) (Operand.tmp 12), type := 0, pos := "hash.go:60", after := #[{ on := 4, ground := Ground.data }, { on := 1, ground := Ground.data }, { on := 3, ground := Ground.chain }, { on := 0, ground := Ground.phase }, { on := 1, ground := Ground.phase }, { on := 2, ground := Ground.textOnly Departure.lateStores }, { on := 3, ground := Ground.phase }, { on := 4, ground := Ground.phase }, { on := 5, ground := Ground.phase }], guard := none }) rfl (fun K hK => ?_) AllReadyH.nil
            rw [if_pos (by rfl)]
            refine wp_store_row 66 (.tmp 6) (.tmp 12) rfl g9_ (Bs K54).toArray (by rfl) (by rfl) 66 _ ra11 hs54 (by rw [hl54]; rfl) (one_cell_bs _) ?_
            have bs12 := below_setRow (cs := (Bs K54).toArray) bb11 (g := g9_) (by omega)
            have r1 := setRow_heap _ _ _ (Bs K54).toArray _ _ ra11
            have r2 := (setRow_other w11_ g9_ g11_ (Bs K54).toArray (by omega)).trans rn11
            simp only [Act.put]
            refine hK.out _ _ (LB.out _ bs12) (fun hHeldA => ?_)
            clear hK K
            refine wpAnyH_ready (rs := [7]) (by kernel_rfl) (by simp) ?_
            refine AllReadyH.cons (o := { dst := none, op := Op.store 66 (Operand.tmp 7) (Operand.tmp 14), type := 0, pos := "hash.go:60", after := #[{ on := 5, ground := Ground.data }, { on := 3, ground := Ground.data }, { on := 6, ground := Ground.chain }, { on := 0, ground := Ground.phase }, { on := 1, ground := Ground.phase }, { on := 2, ground := Ground.phase }, { on := 3, ground := Ground.phase }, { on := 4, ground := Ground.phase }, { on := 5, ground := Ground.phase }, { on := 6, ground := Ground.phase }], guard := none }) rfl (fun K hK => ?_) AllReadyH.nil
            rw [if_pos (by rfl)]
            refine wp_store_row 66 (.tmp 7) (.tmp 14) rfl g11_ (Bs K92).toArray (by rfl) (by rfl) 66 _ r2 hs92 (by rw [hl92]; rfl) (one_cell_bs _) ?_
            have bt12 := below_setRow (cs := (Bs K92).toArray) bs12 (g := g11_) (by omega)
            have r3 := setRow_heap _ _ _ (Bs K92).toArray _ _ r2
            have r4 := (setRow_other _ g11_ g9_ (Bs K92).toArray (by omega)).trans r1
            simp only [Act.put]
            refine hK.out _ _ (LB.out _ bt12) (fun hHeldB => ?_)
            clear hK K
            refine wpAnyH_done (by kernel_rfl) (NoPanic.normal ?_) _
            go_wp2
            go_meet
            case rel => exact ⟨g9_, g11_, rfl, rfl, r4, r3, by omega, by omega, bt12⟩
        · go_simp
          have bb13 : Below B0 W0 (World.alloc w9_ (.cells (Bs (List.replicate 64 0)).toArray 66)) := bb9.alloc (le_of_below hB0 bb9) _
          have rn13 : (World.alloc w9_ (.cells (Bs (List.replicate 64 0)).toArray 66)).heap[(World.heap w9_).size]? = some (.cells (Bs (List.replicate 64 0)).toArray 66 (0, 0)) := _root_.Go.heap_alloc_new _ _
          have ra13 : (World.alloc w9_ (.cells (Bs (List.replicate 64 0)).toArray 66)).heap[g9_]? = some (.cells (Bs (List.replicate 64 0)).toArray 66 (0, 0)) := (_root_.Go.heap_alloc_old _ _ (row_lt rn9)).trans rn9
          have ne13 : g9_ ≠ (World.heap w9_).size := by have := row_lt rn9; omega
          have hg13 : B0 ≤ (World.heap w9_).size := le_of_below hB0 bb9
          refine hK.out _ _ (LB.out _ bb13) (fun hHeld13 => ?_)
          clear hK K
          change wpAnyH _ _ _ _ _ _ _ _ (World.alloc w9_ (.cells (Bs (List.replicate 64 0)).toArray 66))
          generalize World.alloc w9_ (.cells (Bs (List.replicate 64 0)).toArray 66) = w13_ at *
          generalize (World.heap w9_).size = g13_ at *
          refine wpAnyH_ready (rs := [3]) (by kernel_rfl) (by simp) ?_
          refine AllReadyH.cons (o := { dst := some 14, op := Op.call { callee := Callee.value (Operand.func 39), args := #[Operand.tmp 13, Operand.const (Value.int IntKind.u8 92)], argTypes := #[66, 5] }, type := 66, pos := "hash.go:60", after := #[{ on := 2, ground := Ground.data }, { on := 1, ground := Ground.chain }], guard := none }) rfl (fun K hK => ?_) AllReadyH.nil
          · go_simp
            refine (CH92 _).mono ?_
            rintro e w14_ ⟨rfl, hb⟩
            have bb14 : Below B0 W0 w14_ := below_up bb13 hb (le_of_below hB0 bb13)
            have ra14 : w14_.heap[g9_]? = some (.cells (Bs (List.replicate 64 0)).toArray 66 (0, 0)) := (hb.block _ (row_lt ra13)).trans ra13
            have rb14 : w14_.heap[g13_]? = some (.cells (Bs (List.replicate 64 0)).toArray 66 (0, 0)) := (hb.block _ (row_lt rn13)).trans rn13
            simp only []
            refine hK.out _ _ (LB.out _ bb14) (fun hHeld14 => ?_)
            clear hK K hb
            refine wpAnyH_ready (rs := [6]) (by kernel_rfl) (by simp) ?_
            refine AllReadyH.cons (o := { dst := none, op := Op.store 66 (Operand.tmp 6) (Operand.tmp 12), type := 0, pos := "hash.go:60", after := #[{ on := 4, ground := Ground.data }, { on := 1, ground := Ground.data }, { on := 3, ground := Ground.chain }, { on := 0, ground := Ground.phase }, { on := 1, ground := Ground.phase }, { on := 2, ground := Ground.textOnly Departure.lateStores }, { on := 3, ground := Ground.phase }, { on := 4, ground := Ground.phase }, { on := 5, ground := Ground.phase }], guard := none }) rfl (fun K hK => ?_) AllReadyH.nil
            rw [if_pos (by rfl)]
            refine wp_store_row 66 (.tmp 6) (.tmp 12) rfl g9_ (Bs K54).toArray (by rfl) (by rfl) 66 _ ra14 hs54 (by rw [hl54]; rfl) (one_cell_bs _) ?_
            have bs15 := below_setRow (cs := (Bs K54).toArray) bb14 (g := g9_) (by omega)
            have r1 := setRow_heap _ _ _ (Bs K54).toArray _ _ ra14
            have r2 := (setRow_other w14_ g9_ g13_ (Bs K54).toArray (by omega)).trans rb14
            simp only [Act.put]
            refine hK.out _ _ (LB.out _ bs15) (fun hHeldA => ?_)
            clear hK K
            refine wpAnyH_ready (rs := [7]) (by kernel_rfl) (by simp) ?_
            refine AllReadyH.cons (o := { dst := none, op := Op.store 66 (Operand.tmp 7) (Operand.tmp 14), type := 0, pos := "hash.go:60", after := #[{ on := 5, ground := Ground.data }, { on := 3, ground := Ground.data }, { on := 6, ground := Ground.chain }, { on := 0, ground := Ground.phase }, { on := 1, ground := Ground.phase }, { on := 2, ground := Ground.phase }, { on := 3, ground := Ground.phase }, { on := 4, ground := Ground.phase }, { on := 5, ground := Ground.phase }, { on := 6, ground := Ground.phase }], guard := none }) rfl (fun K hK => ?_) AllReadyH.nil
            rw [if_pos (by rfl)]
            refine wp_store_row 66 (.tmp 7) (.tmp 14) rfl g13_ (Bs K92).toArray (by rfl) (by rfl) 66 _ r2 hs92 (by rw [hl92]; rfl) (one_cell_bs _) ?_
            have bt15 := below_setRow (cs := (Bs K92).toArray) bs15 (g := g13_) (by omega)
            have r3 := setRow_heap _ _ _ (Bs K92).toArray _ _ r2
            have r4 := (setRow_other _ g13_ g9_ (Bs K92).toArray (by omega)).trans r1
            simp only [Act.put]
            refine hK.out _ _ (LB.out _ bt15) (fun hHeldB => ?_)
            clear hK K
            refine wpAnyH_done (by kernel_rfl) (NoPanic.normal ?_) _
            go_wp2
            go_meet
            case rel => exact ⟨g9_, g13_, rfl, rfl, r4, r3, by omega, by omega, bt15⟩
      · go_simp
        have bb16 : Below B0 W0 (World.alloc w1_ (.cells (Bs (List.replicate 64 0)).toArray 66)) := bb1.alloc (le_of_below hB0 bb1) _
        have rn16 : (World.alloc w1_ (.cells (Bs (List.replicate 64 0)).toArray 66)).heap[(World.heap w1_).size]? = some (.cells (Bs (List.replicate 64 0)).toArray 66 (0, 0)) := _root_.Go.heap_alloc_new _ _
        have hg16 : B0 ≤ (World.heap w1_).size := le_of_below hB0 bb1
        refine hK.out _ _ (LB.out _ bb16) (fun hHeld16 => ?_)
        clear hK K
        change wpAnyH _ _ _ _ _ _ _ _ (World.alloc w1_ (.cells (Bs (List.replicate 64 0)).toArray 66))
        generalize World.alloc w1_ (.cells (Bs (List.replicate 64 0)).toArray 66) = w16_ at *
        generalize (World.heap w1_).size = g16_ at *
        refine wpAnyH_ready (rs := [3, 4]) (by kernel_rfl) (by simp) ?_
        refine AllReadyH.cons (o := { dst := some 14, op := Op.call { callee := Callee.value (Operand.func 39), args := #[Operand.tmp 13, Operand.const (Value.int IntKind.u8 92)], argTypes := #[66, 5] }, type := 66, pos := "hash.go:60", after := #[{ on := 2, ground := Ground.data }, { on := 1, ground := Ground.chain }], guard := none }) rfl (fun K hK => ?_) (AllReadyH.cons (o := { dst := some 6, op := Op.alloc 66, type := 0, pos := "hash.go:60", after := #[], guard := none }) rfl (fun K hK => ?_) AllReadyH.nil)
        · go_simp
          refine (CH92 _).mono ?_
          rintro e w17_ ⟨rfl, hb⟩
          have bb17 : Below B0 W0 w17_ := below_up bb16 hb (le_of_below hB0 bb16)
          have rb17 : w17_.heap[g16_]? = some (.cells (Bs (List.replicate 64 0)).toArray 66 (0, 0)) := (hb.block _ (row_lt rn16)).trans rn16
          simp only []
          refine hK.out _ _ (LB.out _ bb17) (fun hHeld17 => ?_)
          clear hK K hb
          refine wpAnyH_ready (rs := [4]) (by kernel_rfl) (by simp) ?_
          refine AllReadyH.cons (o := { dst := some 6, op := Op.alloc 66, type := 0, pos := "hash.go:60", after := #[], guard := none }) rfl (fun K hK => ?_) AllReadyH.nil
          · go_simp
            have bb18 : Below B0 W0 (World.alloc w17_ (.cells (Bs (List.replicate 64 0)).toArray 66)) := bb17.alloc (le_of_below hB0 bb17) _
            have rn18 : (World.alloc w17_ (.cells (Bs (List.replicate 64 0)).toArray 66)).heap[(World.heap w17_).size]? = some (.cells (Bs (List.replicate 64 0)).toArray 66 (0, 0)) := _root_.Go.heap_alloc_new _ _
            have rb18 : (World.alloc w17_ (.cells (Bs (List.replicate 64 0)).toArray 66)).heap[g16_]? = some (.cells (Bs (List.replicate 64 0)).toArray 66 (0, 0)) := (_root_.Go.heap_alloc_old _ _ (row_lt rb17)).trans rb17
            have ne18 : (World.heap w17_).size ≠ g16_ := by have := row_lt rb17; omega
            have hg18 : B0 ≤ (World.heap w17_).size := le_of_below hB0 bb17
            refine hK.out _ _ (LB.out _ bb18) (fun hHeld18 => ?_)
            clear hK K
            change wpAnyH _ _ _ _ _ _ _ _ (World.alloc w17_ (.cells (Bs (List.replicate 64 0)).toArray 66))
            generalize World.alloc w17_ (.cells (Bs (List.replicate 64 0)).toArray 66) = w18_ at *
            generalize (World.heap w17_).size = g18_ at *
            refine wpAnyH_ready (rs := [6]) (by kernel_rfl) (by simp) ?_
            refine AllReadyH.cons (o := { dst := none, op := Op.store 66 (Operand.tmp 6) (Operand.tmp 12), type := 0, pos := "hash.go:60", after := #[{ on := 4, ground := Ground.data }, { on := 1, ground := Ground.data }, { on := 3, ground := Ground.chain }, { on := 0, ground := Ground.phase }, { on := 1, ground := Ground.phase }, { on := 2, ground := Ground.textOnly Departure.lateStores }, { on := 3, ground := Ground.phase }, { on := 4, ground := Ground.phase }, { on := 5, ground := Ground.phase }], guard := none }) rfl (fun K hK => ?_) AllReadyH.nil
            rw [if_pos (by rfl)]
            refine wp_store_row 66 (.tmp 6) (.tmp 12) rfl g18_ (Bs K54).toArray (by rfl) (by rfl) 66 _ rn18 hs54 (by rw [hl54]; rfl) (one_cell_bs _) ?_
            have bs19 := below_setRow (cs := (Bs K54).toArray) bb18 (g := g18_) (by omega)
            have r1 := setRow_heap _ _ _ (Bs K54).toArray _ _ rn18
            have r2 := (setRow_other w18_ g18_ g16_ (Bs K54).toArray (by omega)).trans rb18
            simp only [Act.put]
            refine hK.out _ _ (LB.out _ bs19) (fun hHeldA => ?_)
            clear hK K
            refine wpAnyH_ready (rs := [7]) (by kernel_rfl) (by simp) ?_
            refine AllReadyH.cons (o := { dst := none, op := Op.store 66 (Operand.tmp 7) (Operand.tmp 14), type := 0, pos := "hash.go:60", after := #[{ on := 5, ground := Ground.data }, { on := 3, ground := Ground.data }, { on := 6, ground := Ground.chain }, { on := 0, ground := Ground.phase }, { on := 1, ground := Ground.phase }, { on := 2, ground := Ground.phase }, { on := 3, ground := Ground.phase }, { on := 4, ground := Ground.phase }, { on := 5, ground := Ground.phase }, { on := 6, ground := Ground.phase }], guard := none }) rfl (fun K hK => ?_) AllReadyH.nil
            rw [if_pos (by rfl)]
            refine wp_store_row 66 (.tmp 7) (.tmp 14) rfl g16_ (Bs K92).toArray (by rfl) (by rfl) 66 _ r2 hs92 (by rw [hl92]; rfl) (one_cell_bs _) ?_
            have bt19 := below_setRow (cs := (Bs K92).toArray) bs19 (g := g16_) (by omega)
            have r3 := setRow_heap _ _ _ (Bs K92).toArray _ _ r2
            have r4 := (setRow_other _ g16_ g18_ (Bs K92).toArray (by omega)).trans r1
            simp only [Act.put]
            refine hK.out _ _ (LB.out _ bt19) (fun hHeldB => ?_)
            clear hK K
            refine wpAnyH_done (by kernel_rfl) (NoPanic.normal ?_) _
            go_wp2
            go_meet
            case rel => exact ⟨g18_, g16_, rfl, rfl, r4, r3, by omega, by omega, bt19⟩
        · go_simp
          have bb20 : Below B0 W0 (World.alloc w16_ (.cells (Bs (List.replicate 64 0)).toArray 66)) := bb16.alloc (le_of_below hB0 bb16) _
          have rn20 : (World.alloc w16_ (.cells (Bs (List.replicate 64 0)).toArray 66)).heap[(World.heap w16_).size]? = some (.cells (Bs (List.replicate 64 0)).toArray 66 (0, 0)) := _root_.Go.heap_alloc_new _ _
          have rb20 : (World.alloc w16_ (.cells (Bs (List.replicate 64 0)).toArray 66)).heap[g16_]? = some (.cells (Bs (List.replicate 64 0)).toArray 66 (0, 0)) := (_root_.Go.heap_alloc_old _ _ (row_lt rn16)).trans rn16
          have ne20 : (World.heap w16_).size ≠ g16_ := by have := row_lt rn16; omega
          have hg20 : B0 ≤ (World.heap w16_).size := le_of_below hB0 bb16
          refine hK.out _ _ (LB.out _ bb20) (fun hHeld20 => ?_)
          clear hK K
          change wpAnyH _ _ _ _ _ _ _ _ (World.alloc w16_ (.cells (Bs (List.replicate 64 0)).toArray 66))
          generalize World.alloc w16_ (.cells (Bs (List.replicate 64 0)).toArray 66) = w20_ at *
          generalize (World.heap w16_).size = g20_ at *
          refine wpAnyH_ready (rs := [3]) (by kernel_rfl) (by simp) ?_
          refine AllReadyH.cons (o := { dst := some 14, op := Op.call { callee := Callee.value (Operand.func 39), args := #[Operand.tmp 13, Operand.const (Value.int IntKind.u8 92)], argTypes := #[66, 5] }, type := 66, pos := "hash.go:60", after := #[{ on := 2, ground := Ground.data }, { on := 1, ground := Ground.chain }], guard := none }) rfl (fun K hK => ?_) AllReadyH.nil
          · go_simp
            refine (CH92 _).mono ?_
            rintro e w21_ ⟨rfl, hb⟩
            have bb21 : Below B0 W0 w21_ := below_up bb20 hb (le_of_below hB0 bb20)
            have ra21 : w21_.heap[g20_]? = some (.cells (Bs (List.replicate 64 0)).toArray 66 (0, 0)) := (hb.block _ (row_lt rn20)).trans rn20
            have rb21 : w21_.heap[g16_]? = some (.cells (Bs (List.replicate 64 0)).toArray 66 (0, 0)) := (hb.block _ (row_lt rb20)).trans rb20
            simp only []
            refine hK.out _ _ (LB.out _ bb21) (fun hHeld21 => ?_)
            clear hK K hb
            refine wpAnyH_ready (rs := [6]) (by kernel_rfl) (by simp) ?_
            refine AllReadyH.cons (o := { dst := none, op := Op.store 66 (Operand.tmp 6) (Operand.tmp 12), type := 0, pos := "hash.go:60", after := #[{ on := 4, ground := Ground.data }, { on := 1, ground := Ground.data }, { on := 3, ground := Ground.chain }, { on := 0, ground := Ground.phase }, { on := 1, ground := Ground.phase }, { on := 2, ground := Ground.textOnly Departure.lateStores }, { on := 3, ground := Ground.phase }, { on := 4, ground := Ground.phase }, { on := 5, ground := Ground.phase }], guard := none }) rfl (fun K hK => ?_) AllReadyH.nil
            rw [if_pos (by rfl)]
            refine wp_store_row 66 (.tmp 6) (.tmp 12) rfl g20_ (Bs K54).toArray (by rfl) (by rfl) 66 _ ra21 hs54 (by rw [hl54]; rfl) (one_cell_bs _) ?_
            have bs22 := below_setRow (cs := (Bs K54).toArray) bb21 (g := g20_) (by omega)
            have r1 := setRow_heap _ _ _ (Bs K54).toArray _ _ ra21
            have r2 := (setRow_other w21_ g20_ g16_ (Bs K54).toArray (by omega)).trans rb21
            simp only [Act.put]
            refine hK.out _ _ (LB.out _ bs22) (fun hHeldA => ?_)
            clear hK K
            refine wpAnyH_ready (rs := [7]) (by kernel_rfl) (by simp) ?_
            refine AllReadyH.cons (o := { dst := none, op := Op.store 66 (Operand.tmp 7) (Operand.tmp 14), type := 0, pos := "hash.go:60", after := #[{ on := 5, ground := Ground.data }, { on := 3, ground := Ground.data }, { on := 6, ground := Ground.chain }, { on := 0, ground := Ground.phase }, { on := 1, ground := Ground.phase }, { on := 2, ground := Ground.phase }, { on := 3, ground := Ground.phase }, { on := 4, ground := Ground.phase }, { on := 5, ground := Ground.phase }, { on := 6, ground := Ground.phase }], guard := none }) rfl (fun K hK => ?_) AllReadyH.nil
            rw [if_pos (by rfl)]
            refine wp_store_row 66 (.tmp 7) (.tmp 14) rfl g16_ (Bs K92).toArray (by rfl) (by rfl) 66 _ r2 hs92 (by rw [hl92]; rfl) (one_cell_bs _) ?_
            have bt22 := below_setRow (cs := (Bs K92).toArray) bs22 (g := g16_) (by omega)
            have r3 := setRow_heap _ _ _ (Bs K92).toArray _ _ r2
            have r4 := (setRow_other _ g16_ g20_ (Bs K92).toArray (by omega)).trans r1
            simp only [Act.put]
            refine hK.out _ _ (LB.out _ bt22) (fun hHeldB => ?_)
            clear hK K
            refine wpAnyH_done (by kernel_rfl) (NoPanic.normal ?_) _
            go_wp2
            go_meet
            case rel => exact ⟨g20_, g16_, rfl, rfl, r4, r3, by omega, by omega, bt22⟩
    · go_simp
      have bb23 : Below B0 W0 (World.alloc WR.drew (.cells (Bs (List.replicate 64 0)).toArray 66)) := bb0.alloc (le_of_below hB0 bb0) _
      have rn23 : (World.alloc WR.drew (.cells (Bs (List.replicate 64 0)).toArray 66)).heap[(World.heap WR).size]? = some (.cells (Bs (List.replicate 64 0)).toArray 66 (0, 0)) := _root_.Go.heap_alloc_new _ _
      have hg23 : B0 ≤ (World.heap WR).size := le_of_below hB0 hB
      refine hK.out _ _ (LB.out _ bb23) (fun hHeld23 => ?_)
      clear hK K
      change wpAnyH _ _ _ _ _ _ _ _ (World.alloc WR.drew (.cells (Bs (List.replicate 64 0)).toArray 66))
      generalize World.alloc WR.drew (.cells (Bs (List.replicate 64 0)).toArray 66) = w23_ at *
      generalize (World.heap WR).size = g23_ at *
      refine wpAnyH_ready (rs := [1, 5]) (by kernel_rfl) (by simp) ?_
      refine AllReadyH.cons (o := { dst := some 12, op := Op.call { callee := Callee.value (Operand.func 39), args := #[Operand.tmp 11, Operand.const (Value.int IntKind.u8 54)], argTypes := #[66, 5] }, type := 66, pos := "hash.go:60", after := #[{ on := 0, ground := Ground.data }], guard := none }) rfl (fun K hK => ?_) (AllReadyH.cons (o := { dst := some 7, op := Op.alloc 66, type := 0, pos := "hash.go:60", after := #[], guard := none }) rfl (fun K hK => ?_) AllReadyH.nil)
      · go_simp
        refine (CH54 _).mono ?_
        rintro e w24_ ⟨rfl, hb⟩
        have bb24 : Below B0 W0 w24_ := below_up bb23 hb (le_of_below hB0 bb23)
        have ra24 : w24_.heap[g23_]? = some (.cells (Bs (List.replicate 64 0)).toArray 66 (0, 0)) := (hb.block _ (row_lt rn23)).trans rn23
        simp only []
        refine hK.out _ _ (LB.out _ bb24) (fun hHeld24 => ?_)
        clear hK K hb
        refine wpAnyH_ready (rs := [3, 5]) (by kernel_rfl) (by simp) ?_
        refine AllReadyH.cons (o := { dst := some 14, op := Op.call { callee := Callee.value (Operand.func 39), args := #[Operand.tmp 13, Operand.const (Value.int IntKind.u8 92)], argTypes := #[66, 5] }, type := 66, pos := "hash.go:60", after := #[{ on := 2, ground := Ground.data }, { on := 1, ground := Ground.chain }], guard := none }) rfl (fun K hK => ?_) (AllReadyH.cons (o := { dst := some 7, op := Op.alloc 66, type := 0, pos := "hash.go:60", after := #[], guard := none }) rfl (fun K hK => ?_) AllReadyH.nil)
        · go_simp
          refine (CH92 _).mono ?_
          rintro e w25_ ⟨rfl, hb⟩
          have bb25 : Below B0 W0 w25_ := below_up bb24 hb (le_of_below hB0 bb24)
          have ra25 : w25_.heap[g23_]? = some (.cells (Bs (List.replicate 64 0)).toArray 66 (0, 0)) := (hb.block _ (row_lt ra24)).trans ra24
          simp only []
          refine hK.out _ _ (LB.out _ bb25) (fun hHeld25 => ?_)
          clear hK K hb
          refine wpAnyH_ready (rs := [5]) (by kernel_rfl) (by simp) ?_
          refine AllReadyH.cons (o := { dst := some 7, op := Op.alloc 66, type := 0, pos := "hash.go:60", after := #[], guard := none }) rfl (fun K hK => ?_) AllReadyH.nil
          · go_simp
            have bb26 : Below B0 W0 (World.alloc w25_ (.cells (Bs (List.replicate 64 0)).toArray 66)) := bb25.alloc (le_of_below hB0 bb25) _
            have rn26 : (World.alloc w25_ (.cells (Bs (List.replicate 64 0)).toArray 66)).heap[(World.heap w25_).size]? = some (.cells (Bs (List.replicate 64 0)).toArray 66 (0, 0)) := _root_.Go.heap_alloc_new _ _
            have ra26 : (World.alloc w25_ (.cells (Bs (List.replicate 64 0)).toArray 66)).heap[g23_]? = some (.cells (Bs (List.replicate 64 0)).toArray 66 (0, 0)) := (_root_.Go.heap_alloc_old _ _ (row_lt ra25)).trans ra25
            have ne26 : g23_ ≠ (World.heap w25_).size := by have := row_lt ra25; omega
            have hg26 : B0 ≤ (World.heap w25_).size := le_of_below hB0 bb25
            refine hK.out _ _ (LB.out _ bb26) (fun hHeld26 => ?_)
            clear hK K
            change wpAnyH _ _ _ _ _ _ _ _ (World.alloc w25_ (.cells (Bs (List.replicate 64 0)).toArray 66))
            generalize World.alloc w25_ (.cells (Bs (List.replicate 64 0)).toArray 66) = w26_ at *
            generalize (World.heap w25_).size = g26_ at *
            refine wpAnyH_ready (rs := [6]) (by kernel_rfl) (by simp) ?_
            refine AllReadyH.cons (o := { dst := none, op := Op.store 66 (Operand.tmp 6) (Operand.tmp 12), type := 0, pos := "hash.go:60", after := #[{ on := 4, ground := Ground.data }, { on := 1, ground := Ground.data }, { on := 3, ground := Ground.chain }, { on := 0, ground := Ground.phase }, { on := 1, ground := Ground.phase }, { on := 2, ground := Ground.textOnly Departure.lateStores }, { on := 3, ground := Ground.phase }, { on := 4, ground := Ground.phase }, { on := 5, ground := Ground.phase }], guard := none }) rfl (fun K hK => ?_) AllReadyH.nil
            rw [if_pos (by rfl)]
            refine wp_store_row 66 (.tmp 6) (.tmp 12) rfl g23_ (Bs K54).toArray (by rfl) (by rfl) 66 _ ra26 hs54 (by rw [hl54]; rfl) (one_cell_bs _) ?_
            have bs27 := below_setRow (cs := (Bs K54).toArray) bb26 (g := g23_) (by omega)
            have r1 := setRow_heap _ _ _ (Bs K54).toArray _ _ ra26
            have r2 := (setRow_other w26_ g23_ g26_ (Bs K54).toArray (by omega)).trans rn26
            simp only [Act.put]
            refine hK.out _ _ (LB.out _ bs27) (fun hHeldA => ?_)
            clear hK K
            refine wpAnyH_ready (rs := [7]) (by kernel_rfl) (by simp) ?_
            refine AllReadyH.cons (o := { dst := none, op := Op.store 66 (Operand.tmp 7) (Operand.tmp 14), type := 0, pos := "hash.go:60", after := #[{ on := 5, ground := Ground.data }, { on := 3, ground := Ground.data }, { on := 6, ground := Ground.chain }, { on := 0, ground := Ground.phase }, { on := 1, ground := Ground.phase }, { on := 2, ground := Ground.phase }, { on := 3, ground := Ground.phase }, { on := 4, ground := Ground.phase }, { on := 5, ground := Ground.phase }, { on := 6, ground := Ground.phase }], guard := none }) rfl (fun K hK => ?_) AllReadyH.nil
            rw [if_pos (by rfl)]
            refine wp_store_row 66 (.tmp 7) (.tmp 14) rfl g26_ (Bs K92).toArray (by rfl) (by rfl) 66 _ r2 hs92 (by rw [hl92]; rfl) (one_cell_bs _) ?_
            have bt27 := below_setRow (cs := (Bs K92).toArray) bs27 (g := g26_) (by omega)
            have r3 := setRow_heap _ _ _ (Bs K92).toArray _ _ r2
            have r4 := (setRow_other _ g26_ g23_ (Bs K92).toArray (by omega)).trans r1
            simp only [Act.put]
            refine hK.out _ _ (LB.out _ bt27) (fun hHeldB => ?_)
            clear hK K
            refine wpAnyH_done (by kernel_rfl) (NoPanic.normal ?_) _
            go_wp2
            go_meet
            case rel => exact ⟨g23_, g26_, rfl, rfl, r4, r3, by omega, by omega, bt27⟩
        · go_simp
          have bb28 : Below B0 W0 (World.alloc w24_ (.cells (Bs (List.replicate 64 0)).toArray 66)) := bb24.alloc (le_of_below hB0 bb24) _
          have rn28 : (World.alloc w24_ (.cells (Bs (List.replicate 64 0)).toArray 66)).heap[(World.heap w24_).size]? = some (.cells (Bs (List.replicate 64 0)).toArray 66 (0, 0)) := _root_.Go.heap_alloc_new _ _
          have ra28 : (World.alloc w24_ (.cells (Bs (List.replicate 64 0)).toArray 66)).heap[g23_]? = some (.cells (Bs (List.replicate 64 0)).toArray 66 (0, 0)) := (_root_.Go.heap_alloc_old _ _ (row_lt ra24)).trans ra24
          have ne28 : g23_ ≠ (World.heap w24_).size := by have := row_lt ra24; omega
          have hg28 : B0 ≤ (World.heap w24_).size := le_of_below hB0 bb24
          refine hK.out _ _ (LB.out _ bb28) (fun hHeld28 => ?_)
          clear hK K
          change wpAnyH _ _ _ _ _ _ _ _ (World.alloc w24_ (.cells (Bs (List.replicate 64 0)).toArray 66))
          generalize World.alloc w24_ (.cells (Bs (List.replicate 64 0)).toArray 66) = w28_ at *
          generalize (World.heap w24_).size = g28_ at *
          refine wpAnyH_ready (rs := [3]) (by kernel_rfl) (by simp) ?_
          refine AllReadyH.cons (o := { dst := some 14, op := Op.call { callee := Callee.value (Operand.func 39), args := #[Operand.tmp 13, Operand.const (Value.int IntKind.u8 92)], argTypes := #[66, 5] }, type := 66, pos := "hash.go:60", after := #[{ on := 2, ground := Ground.data }, { on := 1, ground := Ground.chain }], guard := none }) rfl (fun K hK => ?_) AllReadyH.nil
          · go_simp
            refine (CH92 _).mono ?_
            rintro e w29_ ⟨rfl, hb⟩
            have bb29 : Below B0 W0 w29_ := below_up bb28 hb (le_of_below hB0 bb28)
            have ra29 : w29_.heap[g23_]? = some (.cells (Bs (List.replicate 64 0)).toArray 66 (0, 0)) := (hb.block _ (row_lt ra28)).trans ra28
            have rb29 : w29_.heap[g28_]? = some (.cells (Bs (List.replicate 64 0)).toArray 66 (0, 0)) := (hb.block _ (row_lt rn28)).trans rn28
            simp only []
            refine hK.out _ _ (LB.out _ bb29) (fun hHeld29 => ?_)
            clear hK K hb
            refine wpAnyH_ready (rs := [6]) (by kernel_rfl) (by simp) ?_
            refine AllReadyH.cons (o := { dst := none, op := Op.store 66 (Operand.tmp 6) (Operand.tmp 12), type := 0, pos := "hash.go:60", after := #[{ on := 4, ground := Ground.data }, { on := 1, ground := Ground.data }, { on := 3, ground := Ground.chain }, { on := 0, ground := Ground.phase }, { on := 1, ground := Ground.phase }, { on := 2, ground := Ground.textOnly Departure.lateStores }, { on := 3, ground := Ground.phase }, { on := 4, ground := Ground.phase }, { on := 5, ground := Ground.phase }], guard := none }) rfl (fun K hK => ?_) AllReadyH.nil
            rw [if_pos (by rfl)]
            refine wp_store_row 66 (.tmp 6) (.tmp 12) rfl g23_ (Bs K54).toArray (by rfl) (by rfl) 66 _ ra29 hs54 (by rw [hl54]; rfl) (one_cell_bs _) ?_
            have bs30 := below_setRow (cs := (Bs K54).toArray) bb29 (g := g23_) (by omega)
            have r1 := setRow_heap _ _ _ (Bs K54).toArray _ _ ra29
            have r2 := (setRow_other w29_ g23_ g28_ (Bs K54).toArray (by omega)).trans rb29
            simp only [Act.put]
            refine hK.out _ _ (LB.out _ bs30) (fun hHeldA => ?_)
            clear hK K
            refine wpAnyH_ready (rs := [7]) (by kernel_rfl) (by simp) ?_
            refine AllReadyH.cons (o := { dst := none, op := Op.store 66 (Operand.tmp 7) (Operand.tmp 14), type := 0, pos := "hash.go:60", after := #[{ on := 5, ground := Ground.data }, { on := 3, ground := Ground.data }, { on := 6, ground := Ground.chain }, { on := 0, ground := Ground.phase }, { on := 1, ground := Ground.phase }, { on := 2, ground := Ground.phase }, { on := 3, ground := Ground.phase }, { on := 4, ground := Ground.phase }, { on := 5, ground := Ground.phase }, { on := 6, ground := Ground.phase }], guard := none }) rfl (fun K hK => ?_) AllReadyH.nil
            rw [if_pos (by rfl)]
            refine wp_store_row 66 (.tmp 7) (.tmp 14) rfl g28_ (Bs K92).toArray (by rfl) (by rfl) 66 _ r2 hs92 (by rw [hl92]; rfl) (one_cell_bs _) ?_
            have bt30 := below_setRow (cs := (Bs K92).toArray) bs30 (g := g28_) (by omega)
            have r3 := setRow_heap _ _ _ (Bs K92).toArray _ _ r2
            have r4 := (setRow_other _ g28_ g23_ (Bs K92).toArray (by omega)).trans r1
            simp only [Act.put]
            refine hK.out _ _ (LB.out _ bt30) (fun hHeldB => ?_)
            clear hK K
            refine wpAnyH_done (by kernel_rfl) (NoPanic.normal ?_) _
            go_wp2
            go_meet
            case rel => exact ⟨g23_, g28_, rfl, rfl, r4, r3, by omega, by omega, bt30⟩
      · go_simp
        have bb31 : Below B0 W0 (World.alloc w23_ (.cells (Bs (List.replicate 64 0)).toArray 66)) := bb23.alloc (le_of_below hB0 bb23) _
        have rn31 : (World.alloc w23_ (.cells (Bs (List.replicate 64 0)).toArray 66)).heap[(World.heap w23_).size]? = some (.cells (Bs (List.replicate 64 0)).toArray 66 (0, 0)) := _root_.Go.heap_alloc_new _ _
        have ra31 : (World.alloc w23_ (.cells (Bs (List.replicate 64 0)).toArray 66)).heap[g23_]? = some (.cells (Bs (List.replicate 64 0)).toArray 66 (0, 0)) := (_root_.Go.heap_alloc_old _ _ (row_lt rn23)).trans rn23
        have ne31 : g23_ ≠ (World.heap w23_).size := by have := row_lt rn23; omega
        have hg31 : B0 ≤ (World.heap w23_).size := le_of_below hB0 bb23
        refine hK.out _ _ (LB.out _ bb31) (fun hHeld31 => ?_)
        clear hK K
        change wpAnyH _ _ _ _ _ _ _ _ (World.alloc w23_ (.cells (Bs (List.replicate 64 0)).toArray 66))
        generalize World.alloc w23_ (.cells (Bs (List.replicate 64 0)).toArray 66) = w31_ at *
        generalize (World.heap w23_).size = g31_ at *
        refine wpAnyH_ready (rs := [1]) (by kernel_rfl) (by simp) ?_
        refine AllReadyH.cons (o := { dst := some 12, op := Op.call { callee := Callee.value (Operand.func 39), args := #[Operand.tmp 11, Operand.const (Value.int IntKind.u8 54)], argTypes := #[66, 5] }, type := 66, pos := "hash.go:60", after := #[{ on := 0, ground := Ground.data }], guard := none }) rfl (fun K hK => ?_) AllReadyH.nil
        · go_simp
          refine (CH54 _).mono ?_
          rintro e w32_ ⟨rfl, hb⟩
          have bb32 : Below B0 W0 w32_ := below_up bb31 hb (le_of_below hB0 bb31)
          have ra32 : w32_.heap[g23_]? = some (.cells (Bs (List.replicate 64 0)).toArray 66 (0, 0)) := (hb.block _ (row_lt ra31)).trans ra31
          have rb32 : w32_.heap[g31_]? = some (.cells (Bs (List.replicate 64 0)).toArray 66 (0, 0)) := (hb.block _ (row_lt rn31)).trans rn31
          simp only []
          refine hK.out _ _ (LB.out _ bb32) (fun hHeld32 => ?_)
          clear hK K hb
          refine wpAnyH_ready (rs := [3]) (by kernel_rfl) (by simp) ?_
          refine AllReadyH.cons (o := { dst := some 14, op := Op.call { callee := Callee.value (Operand.func 39), args := #[Operand.tmp 13, Operand.const (Value.int IntKind.u8 92)], argTypes := #[66, 5] }, type := 66, pos := "hash.go:60", after := #[{ on := 2, ground := Ground.data }, { on := 1, ground := Ground.chain }], guard := none }) rfl (fun K hK => ?_) AllReadyH.nil
          · go_simp
            refine (CH92 _).mono ?_
            rintro e w33_ ⟨rfl, hb⟩
            have bb33 : Below B0 W0 w33_ := below_up bb32 hb (le_of_below hB0 bb32)
            have ra33 : w33_.heap[g23_]? = some (.cells (Bs (List.replicate 64 0)).toArray 66 (0, 0)) := (hb.block _ (row_lt ra32)).trans ra32
            have rb33 : w33_.heap[g31_]? = some (.cells (Bs (List.replicate 64 0)).toArray 66 (0, 0)) := (hb.block _ (row_lt rb32)).trans rb32
            simp only []
            refine hK.out _ _ (LB.out _ bb33) (fun hHeld33 => ?_)
            clear hK K hb
            refine wpAnyH_ready (rs := [6]) (by kernel_rfl) (by simp) ?_
            refine AllReadyH.cons (o := { dst := none, op := Op.store 66 (Operand.tmp 6) (Operand.tmp 12), type := 0, pos := "hash.go:60", after := #[{ on := 4, ground := Ground.data }, { on := 1, ground := Ground.data }, { on := 3, ground := Ground.chain }, { on := 0, ground := Ground.phase }, { on := 1, ground := Ground.phase }, { on := 2, ground := Ground.textOnly Departure.lateStores }, { on := 3, ground := Ground.phase }, { on := 4, ground := Ground.phase }, { on := 5, ground := Ground.phase }], guard := none }) rfl (fun K hK => ?_) AllReadyH.nil
            rw [if_pos (by rfl)]
            refine wp_store_row 66 (.tmp 6) (.tmp 12) rfl g23_ (Bs K54).toArray (by rfl) (by rfl) 66 _ ra33 hs54 (by rw [hl54]; rfl) (one_cell_bs _) ?_
            have bs34 := below_setRow (cs := (Bs K54).toArray) bb33 (g := g23_) (by omega)
            have r1 := setRow_heap _ _ _ (Bs K54).toArray _ _ ra33
            have r2 := (setRow_other w33_ g23_ g31_ (Bs K54).toArray (by omega)).trans rb33
            simp only [Act.put]
            refine hK.out _ _ (LB.out _ bs34) (fun hHeldA => ?_)
            clear hK K
            refine wpAnyH_ready (rs := [7]) (by kernel_rfl) (by simp) ?_
            refine AllReadyH.cons (o := { dst := none, op := Op.store 66 (Operand.tmp 7) (Operand.tmp 14), type := 0, pos := "hash.go:60", after := #[{ on := 5, ground := Ground.data }, { on := 3, ground := Ground.data }, { on := 6, ground := Ground.chain }, { on := 0, ground := Ground.phase }, { on := 1, ground := Ground.phase }, { on := 2, ground := Ground.phase }, { on := 3, ground := Ground.phase }, { on := 4, ground := Ground.phase }, { on := 5, ground := Ground.phase }, { on := 6, ground := Ground.phase }], guard := none }) rfl (fun K hK => ?_) AllReadyH.nil
            rw [if_pos (by rfl)]
            refine wp_store_row 66 (.tmp 7) (.tmp 14) rfl g31_ (Bs K92).toArray (by rfl) (by rfl) 66 _ r2 hs92 (by rw [hl92]; rfl) (one_cell_bs _) ?_
            have bt34 := below_setRow (cs := (Bs K92).toArray) bs34 (g := g31_) (by omega)
            have r3 := setRow_heap _ _ _ (Bs K92).toArray _ _ r2
            have r4 := (setRow_other _ g31_ g23_ (Bs K92).toArray (by omega)).trans r1
            simp only [Act.put]
            refine hK.out _ _ (LB.out _ bt34) (fun hHeldB => ?_)
            clear hK K
            refine wpAnyH_done (by kernel_rfl) (NoPanic.normal ?_) _
            go_wp2
            go_meet
            case rel => exact ⟨g23_, g31_, rfl, rfl, r4, r3, by omega, by omega, bt34⟩
    · go_simp
      have bb35 : Below B0 W0 (World.alloc WR.drew (.cells (Bs (List.replicate 64 0)).toArray 66)) := bb0.alloc (le_of_below hB0 bb0) _
      have rn35 : (World.alloc WR.drew (.cells (Bs (List.replicate 64 0)).toArray 66)).heap[(World.heap WR).size]? = some (.cells (Bs (List.replicate 64 0)).toArray 66 (0, 0)) := _root_.Go.heap_alloc_new _ _
      have hg35 : B0 ≤ (World.heap WR).size := le_of_below hB0 hB
      refine hK.out _ _ (LB.out _ bb35) (fun hHeld35 => ?_)
      clear hK K
      change wpAnyH _ _ _ _ _ _ _ _ (World.alloc WR.drew (.cells (Bs (List.replicate 64 0)).toArray 66))
      generalize World.alloc WR.drew (.cells (Bs (List.replicate 64 0)).toArray 66) = w35_ at *
      generalize (World.heap WR).size = g35_ at *
      refine wpAnyH_ready (rs := [1, 4]) (by kernel_rfl) (by simp) ?_
      refine AllReadyH.cons (o := { dst := some 12, op := Op.call { callee := Callee.value (Operand.func 39), args := #[Operand.tmp 11, Operand.const (Value.int IntKind.u8 54)], argTypes := #[66, 5] }, type := 66, pos := "hash.go:60", after := #[{ on := 0, ground := Ground.data }], guard := none }) rfl (fun K hK => ?_) (AllReadyH.cons (o := { dst := some 6, op := Op.alloc 66, type := 0, pos := "hash.go:60", after := #[], guard := none }) rfl (fun K hK => ?_) AllReadyH.nil)
      · go_simp
        refine (CH54 _).mono ?_
        rintro e w36_ ⟨rfl, hb⟩
        have bb36 : Below B0 W0 w36_ := below_up bb35 hb (le_of_below hB0 bb35)
        have rb36 : w36_.heap[g35_]? = some (.cells (Bs (List.replicate 64 0)).toArray 66 (0, 0)) := (hb.block _ (row_lt rn35)).trans rn35
        simp only []
        refine hK.out _ _ (LB.out _ bb36) (fun hHeld36 => ?_)
        clear hK K hb
        refine wpAnyH_ready (rs := [3, 4]) (by kernel_rfl) (by simp) ?_
        refine AllReadyH.cons (o := { dst := some 14, op := Op.call { callee := Callee.value (Operand.func 39), args := #[Operand.tmp 13, Operand.const (Value.int IntKind.u8 92)], argTypes := #[66, 5] }, type := 66, pos := "hash.go:60", after := #[{ on := 2, ground := Ground.data }, { on := 1, ground := Ground.chain }], guard := none }) rfl (fun K hK => ?_) (AllReadyH.cons (o := { dst := some 6, op := Op.alloc 66, type := 0, pos := "hash.go:60", after := #[], guard := none }) rfl (fun K hK => ?_) AllReadyH.nil)
        · go_simp
          refine (CH92 _).mono ?_
          rintro e w37_ ⟨rfl, hb⟩
          have bb37 : Below B0 W0 w37_ := below_up bb36 hb (le_of_below hB0 bb36)
          have rb37 : w37_.heap[g35_]? = some (.cells (Bs (List.replicate 64 0)).toArray 66 (0, 0)) := (hb.block _ (row_lt rb36)).trans rb36
          simp only []
          refine hK.out _ _ (LB.out _ bb37) (fun hHeld37 => ?_)
          clear hK K hb
          refine wpAnyH_ready (rs := [4]) (by kernel_rfl) (by simp) ?_
          refine AllReadyH.cons (o := { dst := some 6, op := Op.alloc 66, type := 0, pos := "hash.go:60", after := #[], guard := none }) rfl (fun K hK => ?_) AllReadyH.nil
          · go_simp
            have bb38 : Below B0 W0 (World.alloc w37_ (.cells (Bs (List.replicate 64 0)).toArray 66)) := bb37.alloc (le_of_below hB0 bb37) _
            have rn38 : (World.alloc w37_ (.cells (Bs (List.replicate 64 0)).toArray 66)).heap[(World.heap w37_).size]? = some (.cells (Bs (List.replicate 64 0)).toArray 66 (0, 0)) := _root_.Go.heap_alloc_new _ _
            have rb38 : (World.alloc w37_ (.cells (Bs (List.replicate 64 0)).toArray 66)).heap[g35_]? = some (.cells (Bs (List.replicate 64 0)).toArray 66 (0, 0)) := (_root_.Go.heap_alloc_old _ _ (row_lt rb37)).trans rb37
            have ne38 : (World.heap w37_).size ≠ g35_ := by have := row_lt rb37; omega
            have hg38 : B0 ≤ (World.heap w37_).size := le_of_below hB0 bb37
            refine hK.out _ _ (LB.out _ bb38) (fun hHeld38 => ?_)
            clear hK K
            change wpAnyH _ _ _ _ _ _ _ _ (World.alloc w37_ (.cells (Bs (List.replicate 64 0)).toArray 66))
            generalize World.alloc w37_ (.cells (Bs (List.replicate 64 0)).toArray 66) = w38_ at *
            generalize (World.heap w37_).size = g38_ at *
            refine wpAnyH_ready (rs := [6]) (by kernel_rfl) (by simp) ?_
            refine AllReadyH.cons (o := { dst := none, op := Op.store 66 (Operand.tmp 6) (Operand.tmp 12), type := 0, pos := "hash.go:60", after := #[{ on := 4, ground := Ground.data }, { on := 1, ground := Ground.data }, { on := 3, ground := Ground.chain }, { on := 0, ground := Ground.phase }, { on := 1, ground := Ground.phase }, { on := 2, ground := Ground.textOnly Departure.lateStores }, { on := 3, ground := Ground.phase }, { on := 4, ground := Ground.phase }, { on := 5, ground := Ground.phase }], guard := none }) rfl (fun K hK => ?_) AllReadyH.nil
            rw [if_pos (by rfl)]
            refine wp_store_row 66 (.tmp 6) (.tmp 12) rfl g38_ (Bs K54).toArray (by rfl) (by rfl) 66 _ rn38 hs54 (by rw [hl54]; rfl) (one_cell_bs _) ?_
            have bs39 := below_setRow (cs := (Bs K54).toArray) bb38 (g := g38_) (by omega)
            have r1 := setRow_heap _ _ _ (Bs K54).toArray _ _ rn38
            have r2 := (setRow_other w38_ g38_ g35_ (Bs K54).toArray (by omega)).trans rb38
            simp only [Act.put]
            refine hK.out _ _ (LB.out _ bs39) (fun hHeldA => ?_)
            clear hK K
            refine wpAnyH_ready (rs := [7]) (by kernel_rfl) (by simp) ?_
            refine AllReadyH.cons (o := { dst := none, op := Op.store 66 (Operand.tmp 7) (Operand.tmp 14), type := 0, pos := "hash.go:60", after := #[{ on := 5, ground := Ground.data }, { on := 3, ground := Ground.data }, { on := 6, ground := Ground.chain }, { on := 0, ground := Ground.phase }, { on := 1, ground := Ground.phase }, { on := 2, ground := Ground.phase }, { on := 3, ground := Ground.phase }, { on := 4, ground := Ground.phase }, { on := 5, ground := Ground.phase }, { on := 6, ground := Ground.phase }], guard := none }) rfl (fun K hK => ?_) AllReadyH.nil
            rw [if_pos (by rfl)]
            refine wp_store_row 66 (.tmp 7) (.tmp 14) rfl g35_ (Bs K92).toArray (by rfl) (by rfl) 66 _ r2 hs92 (by rw [hl92]; rfl) (one_cell_bs _) ?_
            have bt39 := below_setRow (cs := (Bs K92).toArray) bs39 (g := g35_) (by omega)
            have r3 := setRow_heap _ _ _ (Bs K92).toArray _ _ r2
            have r4 := (setRow_other _ g35_ g38_ (Bs K92).toArray (by omega)).trans r1
            simp only [Act.put]
            refine hK.out _ _ (LB.out _ bt39) (fun hHeldB => ?_)
            clear hK K
            refine wpAnyH_done (by kernel_rfl) (NoPanic.normal ?_) _
            go_wp2
            go_meet
            case rel => exact ⟨g38_, g35_, rfl, rfl, r4, r3, by omega, by omega, bt39⟩
        · go_simp
          have bb40 : Below B0 W0 (World.alloc w36_ (.cells (Bs (List.replicate 64 0)).toArray 66)) := bb36.alloc (le_of_below hB0 bb36) _
          have rn40 : (World.alloc w36_ (.cells (Bs (List.replicate 64 0)).toArray 66)).heap[(World.heap w36_).size]? = some (.cells (Bs (List.replicate 64 0)).toArray 66 (0, 0)) := _root_.Go.heap_alloc_new _ _
          have rb40 : (World.alloc w36_ (.cells (Bs (List.replicate 64 0)).toArray 66)).heap[g35_]? = some (.cells (Bs (List.replicate 64 0)).toArray 66 (0, 0)) := (_root_.Go.heap_alloc_old _ _ (row_lt rb36)).trans rb36
          have ne40 : (World.heap w36_).size ≠ g35_ := by have := row_lt rb36; omega
          have hg40 : B0 ≤ (World.heap w36_).size := le_of_below hB0 bb36
          refine hK.out _ _ (LB.out _ bb40) (fun hHeld40 => ?_)
          clear hK K
          change wpAnyH _ _ _ _ _ _ _ _ (World.alloc w36_ (.cells (Bs (List.replicate 64 0)).toArray 66))
          generalize World.alloc w36_ (.cells (Bs (List.replicate 64 0)).toArray 66) = w40_ at *
          generalize (World.heap w36_).size = g40_ at *
          refine wpAnyH_ready (rs := [3]) (by kernel_rfl) (by simp) ?_
          refine AllReadyH.cons (o := { dst := some 14, op := Op.call { callee := Callee.value (Operand.func 39), args := #[Operand.tmp 13, Operand.const (Value.int IntKind.u8 92)], argTypes := #[66, 5] }, type := 66, pos := "hash.go:60", after := #[{ on := 2, ground := Ground.data }, { on := 1, ground := Ground.chain }], guard := none }) rfl (fun K hK => ?_) AllReadyH.nil
          · go_simp
            refine (CH92 _).mono ?_
            rintro e w41_ ⟨rfl, hb⟩
            have bb41 : Below B0 W0 w41_ := below_up bb40 hb (le_of_below hB0 bb40)
            have ra41 : w41_.heap[g40_]? = some (.cells (Bs (List.replicate 64 0)).toArray 66 (0, 0)) := (hb.block _ (row_lt rn40)).trans rn40
            have rb41 : w41_.heap[g35_]? = some (.cells (Bs (List.replicate 64 0)).toArray 66 (0, 0)) := (hb.block _ (row_lt rb40)).trans rb40
            simp only []
            refine hK.out _ _ (LB.out _ bb41) (fun hHeld41 => ?_)
            clear hK K hb
            refine wpAnyH_ready (rs := [6]) (by kernel_rfl) (by simp) ?_
            refine AllReadyH.cons (o := { dst := none, op := Op.store 66 (Operand.tmp 6) (Operand.tmp 12), type := 0, pos := "hash.go:60", after := #[{ on := 4, ground := Ground.data }, { on := 1, ground := Ground.data }, { on := 3, ground := Ground.chain }, { on := 0, ground := Ground.phase }, { on := 1, ground := Ground.phase }, { on := 2, ground := Ground.textOnly Departure.lateStores }, { on := 3, ground := Ground.phase }, { on := 4, ground := Ground.phase }, { on := 5, ground := Ground.phase }], guard := none }) rfl (fun K hK => ?_) AllReadyH.nil
            rw [if_pos (by rfl)]
            refine wp_store_row 66 (.tmp 6) (.tmp 12) rfl g40_ (Bs K54).toArray (by rfl) (by rfl) 66 _ ra41 hs54 (by rw [hl54]; rfl) (one_cell_bs _) ?_
            have bs42 := below_setRow (cs := (Bs K54).toArray) bb41 (g := g40_) (by omega)
            have r1 := setRow_heap _ _ _ (Bs K54).toArray _ _ ra41
            have r2 := (setRow_other w41_ g40_ g35_ (Bs K54).toArray (by omega)).trans rb41
            simp only [Act.put]
            refine hK.out _ _ (LB.out _ bs42) (fun hHeldA => ?_)
            clear hK K
            refine wpAnyH_ready (rs := [7]) (by kernel_rfl) (by simp) ?_
            refine AllReadyH.cons (o := { dst := none, op := Op.store 66 (Operand.tmp 7) (Operand.tmp 14), type := 0, pos := "hash.go:60", after := #[{ on := 5, ground := Ground.data }, { on := 3, ground := Ground.data }, { on := 6, ground := Ground.chain }, { on := 0, ground := Ground.phase }, { on := 1, ground := Ground.phase }, { on := 2, ground := Ground.phase }, { on := 3, ground := Ground.phase }, { on := 4, ground := Ground.phase }, { on := 5, ground := Ground.phase }, { on := 6, ground := Ground.phase }], guard := none }) rfl (fun K hK => ?_) AllReadyH.nil
            rw [if_pos (by rfl)]
            refine wp_store_row 66 (.tmp 7) (.tmp 14) rfl g35_ (Bs K92).toArray (by rfl) (by rfl) 66 _ r2 hs92 (by rw [hl92]; rfl) (one_cell_bs _) ?_
            have bt42 := below_setRow (cs := (Bs K92).toArray) bs42 (g := g35_) (by omega)
            have r3 := setRow_heap _ _ _ (Bs K92).toArray _ _ r2
            have r4 := (setRow_other _ g35_ g40_ (Bs K92).toArray (by omega)).trans r1
            simp only [Act.put]
            refine hK.out _ _ (LB.out _ bt42) (fun hHeldB => ?_)
            clear hK K
            refine wpAnyH_done (by kernel_rfl) (NoPanic.normal ?_) _
            go_wp2
            go_meet
            case rel => exact ⟨g40_, g35_, rfl, rfl, r4, r3, by omega, by omega, bt42⟩
      · go_simp
        have bb43 : Below B0 W0 (World.alloc w35_ (.cells (Bs (List.replicate 64 0)).toArray 66)) := bb35.alloc (le_of_below hB0 bb35) _
        have rn43 : (World.alloc w35_ (.cells (Bs (List.replicate 64 0)).toArray 66)).heap[(World.heap w35_).size]? = some (.cells (Bs (List.replicate 64 0)).toArray 66 (0, 0)) := _root_.Go.heap_alloc_new _ _
        have rb43 : (World.alloc w35_ (.cells (Bs (List.replicate 64 0)).toArray 66)).heap[g35_]? = some (.cells (Bs (List.replicate 64 0)).toArray 66 (0, 0)) := (_root_.Go.heap_alloc_old _ _ (row_lt rn35)).trans rn35
        have ne43 : (World.heap w35_).size ≠ g35_ := by have := row_lt rn35; omega
        have hg43 : B0 ≤ (World.heap w35_).size := le_of_below hB0 bb35
        refine hK.out _ _ (LB.out _ bb43) (fun hHeld43 => ?_)
        clear hK K
        change wpAnyH _ _ _ _ _ _ _ _ (World.alloc w35_ (.cells (Bs (List.replicate 64 0)).toArray 66))
        generalize World.alloc w35_ (.cells (Bs (List.replicate 64 0)).toArray 66) = w43_ at *
        generalize (World.heap w35_).size = g43_ at *
        refine wpAnyH_ready (rs := [1]) (by kernel_rfl) (by simp) ?_
        refine AllReadyH.cons (o := { dst := some 12, op := Op.call { callee := Callee.value (Operand.func 39), args := #[Operand.tmp 11, Operand.const (Value.int IntKind.u8 54)], argTypes := #[66, 5] }, type := 66, pos := "hash.go:60", after := #[{ on := 0, ground := Ground.data }], guard := none }) rfl (fun K hK => ?_) AllReadyH.nil
        · go_simp
          refine (CH54 _).mono ?_
          rintro e w44_ ⟨rfl, hb⟩
          have bb44 : Below B0 W0 w44_ := below_up bb43 hb (le_of_below hB0 bb43)
          have ra44 : w44_.heap[g43_]? = some (.cells (Bs (List.replicate 64 0)).toArray 66 (0, 0)) := (hb.block _ (row_lt rn43)).trans rn43
          have rb44 : w44_.heap[g35_]? = some (.cells (Bs (List.replicate 64 0)).toArray 66 (0, 0)) := (hb.block _ (row_lt rb43)).trans rb43
          simp only []
          refine hK.out _ _ (LB.out _ bb44) (fun hHeld44 => ?_)
          clear hK K hb
          refine wpAnyH_ready (rs := [3]) (by kernel_rfl) (by simp) ?_
          refine AllReadyH.cons (o := { dst := some 14, op := Op.call { callee := Callee.value (Operand.func 39), args := #[Operand.tmp 13, Operand.const (Value.int IntKind.u8 92)], argTypes := #[66, 5] }, type := 66, pos := "hash.go:60", after := #[{ on := 2, ground := Ground.data }, { on := 1, ground := Ground.chain }], guard := none }) rfl (fun K hK => ?_) AllReadyH.nil
          · go_simp
            refine (CH92 _).mono ?_
            rintro e w45_ ⟨rfl, hb⟩
            have bb45 : Below B0 W0 w45_ := below_up bb44 hb (le_of_below hB0 bb44)
            have ra45 : w45_.heap[g43_]? = some (.cells (Bs (List.replicate 64 0)).toArray 66 (0, 0)) := (hb.block _ (row_lt ra44)).trans ra44
            have rb45 : w45_.heap[g35_]? = some (.cells (Bs (List.replicate 64 0)).toArray 66 (0, 0)) := (hb.block _ (row_lt rb44)).trans rb44
            simp only []
            refine hK.out _ _ (LB.out _ bb45) (fun hHeld45 => ?_)
            clear hK K hb
            refine wpAnyH_ready (rs := [6]) (by kernel_rfl) (by simp) ?_
            refine AllReadyH.cons (o := { dst := none, op := Op.store 66 (Operand.tmp 6) (Operand.tmp 12), type := 0, pos := "hash.go:60", after := #[{ on := 4, ground := Ground.data }, { on := 1, ground := Ground.data }, { on := 3, ground := Ground.chain }, { on := 0, ground := Ground.phase }, { on := 1, ground := Ground.phase }, { on := 2, ground := Ground.textOnly Departure.lateStores }, { on := 3, ground := Ground.phase }, { on := 4, ground := Ground.phase }, { on := 5, ground := Ground.phase }], guard := none }) rfl (fun K hK => ?_) AllReadyH.nil
            rw [if_pos (by rfl)]
            refine wp_store_row 66 (.tmp 6) (.tmp 12) rfl g43_ (Bs K54).toArray (by rfl) (by rfl) 66 _ ra45 hs54 (by rw [hl54]; rfl) (one_cell_bs _) ?_
            have bs46 := below_setRow (cs := (Bs K54).toArray) bb45 (g := g43_) (by omega)
            have r1 := setRow_heap _ _ _ (Bs K54).toArray _ _ ra45
            have r2 := (setRow_other w45_ g43_ g35_ (Bs K54).toArray (by omega)).trans rb45
            simp only [Act.put]
            refine hK.out _ _ (LB.out _ bs46) (fun hHeldA => ?_)
            clear hK K
            refine wpAnyH_ready (rs := [7]) (by kernel_rfl) (by simp) ?_
            refine AllReadyH.cons (o := { dst := none, op := Op.store 66 (Operand.tmp 7) (Operand.tmp 14), type := 0, pos := "hash.go:60", after := #[{ on := 5, ground := Ground.data }, { on := 3, ground := Ground.data }, { on := 6, ground := Ground.chain }, { on := 0, ground := Ground.phase }, { on := 1, ground := Ground.phase }, { on := 2, ground := Ground.phase }, { on := 3, ground := Ground.phase }, { on := 4, ground := Ground.phase }, { on := 5, ground := Ground.phase }, { on := 6, ground := Ground.phase }], guard := none }) rfl (fun K hK => ?_) AllReadyH.nil
            rw [if_pos (by rfl)]
            refine wp_store_row 66 (.tmp 7) (.tmp 14) rfl g35_ (Bs K92).toArray (by rfl) (by rfl) 66 _ r2 hs92 (by rw [hl92]; rfl) (one_cell_bs _) ?_
            have bt46 := below_setRow (cs := (Bs K92).toArray) bs46 (g := g35_) (by omega)
            have r3 := setRow_heap _ _ _ (Bs K92).toArray _ _ r2
            have r4 := (setRow_other _ g35_ g43_ (Bs K92).toArray (by omega)).trans r1
            simp only [Act.put]
            refine hK.out _ _ (LB.out _ bt46) (fun hHeldB => ?_)
            clear hK K
            refine wpAnyH_done (by kernel_rfl) (NoPanic.normal ?_) _
            go_wp2
            go_meet
            case rel => exact ⟨g43_, g35_, rfl, rfl, r4, r3, by omega, by omega, bt46⟩
  case rest =>
    obtain ⟨A, B, rfl, rfl, hA, hBb, hA0, hBb0, hBW⟩ := hcut
    obtain ⟨NR, BWc⟩ := hN0.out _ hBW
    have hq := hb2.below BWc
    have BA : BIn wc (some ⟨A, 0, none⟩) K54 := bin_dig hA b54
    have hslA := slice_block A
    have hslB := slice_block B
    have B3 : Below wc.heap.size wc (wc.alloc (Obj.cells #[.slice (some ⟨A, 0, none⟩) 64 64, .slice q ys.length d] 22)) := (Below.refl _ _).alloc (Nat.le_refl _) _
    have kW := (hk.below BWc hk.pos)
    have HC := digest_any wc.heap.size [K54, ys] [.slice (some ⟨A, 0, none⟩) 64 64, .slice q ys.length d] (wc.alloc (Obj.cells #[.slice (some ⟨A, 0, none⟩) 64 64, .slice q ys.length d] 22)) (kW.below B3 kW.pos) rfl (fun i v hv => by
      match i, hv with
      | 0, hv =>
        simp only [List.getElem?_cons_zero, Option.some.injEq] at hv
        subst hv
        refine ⟨by rw [cell_of_row _ _ _ _ _ _ (_root_.Go.heap_alloc_new _ _)]; rfl, ?_⟩
        have := pc_of_bin (c := 64) (by omega) BA B3
        rw [l54] at this
        exact this
      | 1, hv =>
        simp only [List.getElem?_cons_succ, List.getElem?_cons_zero, Option.some.injEq] at hv
        subst hv
        exact ⟨by rw [cell_of_row _ _ _ _ _ _ (_root_.Go.heap_alloc_new _ _)]; rfl, pc_of_bin hd hq B3⟩) (by simp [catN]; omega) (show 2 < 1000 by decide)
    rw [show catN [K54, ys] = K54 ++ ys from by simp [catN]] at HC
    have hDl := digN_len (K54 ++ ys)
    have hDb := digN_byte (K54 ++ ys)
    generalize digN (K54 ++ ys) = D at HC hDl hDb hsl
    have hDs : (Tryd.prog.info? 23).map (·.size) = some (Bs D).toArray.size := by rw [size_dig]; simp [Bs, hDl]
    have Hq : Hid _ := hb2
    clear CH54 CH92 LB hN0 hq BA hb hb2
    go_wp2_with fail
    refine HC.mono ?_
    rintro e w3 ⟨rfl, hb3⟩
    have B4 : Below wc.heap.size wc w3 := B3.trans ⟨hb3.os, hb3.tape, hb3.output, hb3.size, fun k hk' => hb3.block k (by simp; omega)⟩
    simp only []
    go_step
    go_step
    go_step
    go_step
    refine wpList_store_row rfl 23 (.tmp 8) (.tmp 18) rfl w3.heap.size (Bs D).toArray (by rfl) (by rfl) 23 _ (_root_.Go.heap_alloc_new _ _) hDs (by simp [Bs, hDl]) (one_cell_bs _) ?_
    rw [World.setRow_alloc_new]
    have B5 : Below wc.heap.size wc (w3.alloc (Obj.cells (Bs D).toArray 23)) := B4.alloc B4.size _
    have RD : (w3.alloc (Obj.cells (Bs D).toArray 23)).heap[w3.heap.size]? = some (.cells (Bs D).toArray 23 (0, 0)) := _root_.Go.heap_alloc_new _ _
    have hslD := slice_dig w3.heap.size
    have R5B := (B5.block _ (row_lt hBb)).trans hBb
    have R5N := (B5.block _ (row_lt NR)).trans NR
    have BW5 := below_up BWc B5 BWc.size
    generalize w3.heap.size = g3 at RD hslD ⊢
    generalize w3.alloc (Obj.cells (Bs D).toArray 23) = W5 at B5 RD R5B R5N BW5 ⊢
    clear B4 hb3 HC B3 hslA
    have kW5 := hk.below BW5 hk.pos
    have B6 : Below W5.heap.size W5 (W5.drew.alloc (Obj.cells #[.slice (some ⟨B, 0, none⟩) 64 64, .slice (some ⟨g3, 0, none⟩) 32 32] 22)) := ((Below.refl _ _).drew).alloc (Nat.le_refl _) _
    have HC2 := digest_any W5.heap.size [K92, D] [.slice (some ⟨B, 0, none⟩) 64 64, .slice (some ⟨g3, 0, none⟩) 32 32] (W5.drew.alloc (Obj.cells #[.slice (some ⟨B, 0, none⟩) 64 64, .slice (some ⟨g3, 0, none⟩) 32 32] 22)) (kW5.below B6 kW5.pos) rfl (fun i v hv => by
      match i, hv with
      | 0, hv =>
        simp only [List.getElem?_cons_zero, Option.some.injEq] at hv
        subst hv
        refine ⟨by rw [cell_of_row _ _ _ _ _ _ (show (W5.drew.alloc (Obj.cells #[.slice (some ⟨B, 0, none⟩) 64 64, .slice (some ⟨g3, 0, none⟩) 32 32] 22)).heap[W5.heap.size]? = _ from _root_.Go.heap_alloc_new _ _)]; rfl, ?_⟩
        have := pc_of_bin (c := 64) (by omega) (bin_dig R5B b92) B6
        rw [l92] at this
        exact this
      | 1, hv =>
        simp only [List.getElem?_cons_succ, List.getElem?_cons_zero, Option.some.injEq] at hv
        subst hv
        refine ⟨by rw [cell_of_row _ _ _ _ _ _ (show (W5.drew.alloc (Obj.cells #[.slice (some ⟨B, 0, none⟩) 64 64, .slice (some ⟨g3, 0, none⟩) 32 32] 22)).heap[W5.heap.size]? = _ from _root_.Go.heap_alloc_new _ _)]; rfl, ?_⟩
        have := pc_of_bin (c := 32) (by omega) (bin_dig RD hDb) B6
        rw [hDl] at this
        exact this) (by simp [catN]; omega) (show 2 < 1000 by decide)
    rw [show catN [K92, D] = K92 ++ D from by simp [catN], ← hsl] at HC2
    clear hsl
    have hSs : (Tryd.prog.info? 23).map (·.size) = some (Bs (sealN xs ys)).toArray.size := by rw [size_dig]; simp [Bs, sealN_len]
    go_upto_region 4 with fail
    simp only [Act.put]
    refine wp_region_noPanic ?_
    refine wp_region_held_drew (S := fun _ => True) (by kernel_rfl) trivial (fun _ => ?_)
    refine wpAnyH_take (i := 0) (oi := { dst := some 19, op := Op.slice 66 (Operand.tmp 7) none none none, type := 22, pos := "hash.go:62", after := #[], guard := none }) (v := ?_) rfl (by kernel_rfl) (by kernel_rfl) (by kernel_rfl) (fun _ _ _ h => h) (Or.inl ⟨by rfl, ?_⟩) trivial ?_
    rotate_left
    · intro w' _
      go_simp
      all_goals with_reducible rfl
    simp only [Act.put, List.setIfInBounds_toArray, List.set_cons_zero, List.set_cons_succ]
    refine wpAnyH_take (i := 1) (oi := { dst := some 20, op := Op.slice 23 (Operand.tmp 8) none none none, type := 22, pos := "hash.go:62", after := #[], guard := none }) (v := ?_) rfl (by kernel_rfl) (by kernel_rfl) (by kernel_rfl) (fun _ _ _ h => h) (Or.inl ⟨by rfl, ?_⟩) trivial ?_
    rotate_left
    · intro w' _
      go_simp
      all_goals with_reducible rfl
    simp only [Act.put, List.setIfInBounds_toArray, List.set_cons_zero, List.set_cons_succ]
    refine wpAnyH_ready (rs := [2]) (by kernel_rfl) (by simp) ?_
    refine AllReadyH.cons (o := { dst := some 21, op := Op.buildSlice 87 2 #[(0, Operand.tmp 19), (1, Operand.tmp 20)], type := 87, pos := "hash.go:62", after := #[{ on := 0, ground := Ground.data }, { on := 1, ground := Ground.data }], guard := none }) rfl (fun K hK => ?_) AllReadyH.nil
    go_simp
    refine hK.out _ _ trivial (fun hHeld2 => ?_)
    clear hK K
    refine wpAnyH_ready (rs := [3]) (by kernel_rfl) (by simp) ?_
    refine AllReadyH.cons (o := { dst := some 22, op := Op.call { callee := Callee.value (Operand.func 33), args := #[Operand.tmp 21], argTypes := #[87] }, type := 23, pos := "hash.go:62", after := #[{ on := 2, ground := Ground.data }], guard := none }) rfl (fun K hK => ?_) AllReadyH.nil
    go_simp
    refine HC2.mono ?_
    rintro e w7 ⟨rfl, hb7⟩
    have B7 : Below w.heap.size w w7 := below_up BW5 (below_up B6 hb7 (by simp)) BW5.size
    have R7 : w7.heap[w.heap.size]? = some (.cells (Bs (List.replicate 32 0)).toArray 23 (0, 0)) := by
      rw [hb7.block _ (Nat.lt_of_lt_of_le (row_lt R5N) (by simp)), _root_.Go.heap_alloc_old _ _ (show w.heap.size < W5.drew.heap.size from row_lt R5N)]; exact R5N
    simp only []
    refine hK.out _ _ trivial (fun hHeld3 => ?_)
    clear hK K
    refine wpAnyH_ready (rs := [4]) (by kernel_rfl) (by simp) ?_
    refine AllReadyH.cons (o := { dst := none, op := Op.store 23 (Operand.tmp 4) (Operand.tmp 22), type := 0, pos := "hash.go:62", after := #[{ on := 3, ground := Ground.data }, { on := 3, ground := Ground.chain }, { on := 0, ground := Ground.phase }, { on := 1, ground := Ground.phase }, { on := 2, ground := Ground.phase }, { on := 3, ground := Ground.phase }], guard := none }) rfl (fun K hK => ?_) AllReadyH.nil
    rw [if_pos (by rfl)]
    refine wp_store_row 23 (.tmp 4) (.tmp 22) rfl w.heap.size (Bs (sealN xs ys)).toArray (by rfl) (by rfl) 23 _ R7 hSs (by simp [Bs, sealN_len]) (one_cell_bs _) ?_
    have HS := setRow_heap w7 _ _ (Bs (sealN xs ys)).toArray 23 (0, 0) R7
    simp only [Act.put]
    refine hK.out _ _ trivial (fun hHeld4 => ?_)
    clear hK K
    refine wpAnyH_done (by kernel_rfl) (NoPanic.normal ?_) _
    go_wp2
    refine bodyPost_ret (results_cell_row rfl _ _ w.heap.size 23 (Bs (sealN xs ys)).toArray (0, 0) _ (by rfl) HS Tryd.underlying23 rfl hSs) rfl ⟨rfl, ?_⟩
    exact below_setRow B7 (Nat.le_refl _)
end Go.Proofs.YtoagaddciapmkaaDoor
