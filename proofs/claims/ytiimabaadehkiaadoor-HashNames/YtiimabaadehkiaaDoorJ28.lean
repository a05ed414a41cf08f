/-
  The chapter's examples: the law.
-/
import Derived.Test.YtiimabaadehkiaaDoorJ26
import Derived.Test.YtiimabaadehkiaaDoorJ27
namespace Go.Proofs.YtiimabaadehkiaaDoor
open Go.RowKit Go.WideShapes

def noneS : ByteArray := ⟨#[101, 51, 98, 48, 99, 52, 52, 50, 57, 56, 102, 99, 49, 99, 49, 52, 57, 97, 102, 98, 102, 52, 99, 56, 57, 57, 54, 102, 98, 57, 50, 52, 50, 55, 97, 101, 52, 49, 101, 52, 54, 52, 57, 98, 57, 51, 52, 99, 97, 52, 57, 53, 57, 57, 49, 98, 55, 56, 53, 50, 98, 56, 53, 53]⟩
def foxS : ByteArray := ⟨#[102, 55, 98, 99, 56, 51, 102, 52, 51, 48, 53, 51, 56, 52, 50, 52, 98, 49, 51, 50, 57, 56, 101, 54, 97, 97, 54, 102, 98, 49, 52, 51, 101, 102, 52, 100, 53, 57, 97, 49, 52, 57, 52, 54, 49, 55, 53, 57, 57, 55, 52, 55, 57, 100, 98, 99, 50, 100, 49, 97, 51, 99, 100, 56]⟩
def keyL : List Nat := [107, 101, 121]
def foxL : List Nat := [84, 104, 101, 32, 113, 117, 105, 99, 107, 32, 98, 114, 111, 119, 110, 32, 102, 111, 120, 32, 106, 117, 109, 112, 115, 32, 111, 118, 101, 114, 32, 116, 104, 101, 32, 108, 97, 122, 121, 32, 100, 111, 103]
theorem none_text : strOf (hexN (digN [])) = noneS := by
  rw [dig_none]
  apply bytes_inj
  rw [strOf_list]
  rfl
theorem fox_sum : hexN (sealN keyL foxL) = [102, 55, 98, 99, 56, 51, 102, 52, 51, 48, 53, 51, 56, 52, 50, 52, 98, 49, 51, 50, 57, 56, 101, 54, 97, 97, 54, 102, 98, 49, 52, 51, 101, 102, 52, 100, 53, 57, 97, 49, 52, 57, 52, 54, 49, 55, 53, 57, 57, 55, 52, 55, 57, 100, 98, 99, 50, 100, 49, 97, 51, 99, 100, 56] := by kernel_rfl
theorem fox_text : strOf (hexN (sealN keyL foxL)) = foxS := by
  rw [fox_sum]
  apply bytes_inj
  rw [strOf_list]
  rfl
theorem none_eq : (noneS.toList == noneS.data.toList) = true := by rw [Lib.toList_data]; simp
/-- A row of bytes that was made of a constant text. -/
theorem bin_lit (w : World) (l : List Nat) (n : Nat) (hl : ∀ x ∈ l, x < 256) : BIn ((w.alloc (.cells (Bs l).toArray 5)).freeze ⟨w.heap.size, n, none⟩ 1) (some ⟨w.heap.size, 0, none⟩) l :=
  ⟨fun _ => ⟨w.heap.size, 0, rfl, fun i hi => by
    rw [cell_freeze, Nat.zero_add]; exact cell_bs (_root_.Go.heap_alloc_new _ _) hi⟩, hl⟩
theorem BW34 {a b c : World} {g : Nat} (h : Below a.heap.size a b) (k : Below b.heap.size b c) (hg : g < a.heap.size) : c.heap[g]? = a.heap[g]? :=
  (k.block g (Nat.lt_of_lt_of_le hg h.size)).trans (h.block g hg)
set_option maxHeartbeats 4000000 in
set_option maxRecDepth 100000 in
theorem law_names (w : World) (hk : KOn w) : Calls Tryd.prog 3 #[] w fun e w' => e = .returned (.bool true) ∧ Below w.heap.size w w' := by
  have SM := sum_any none 0 [] w hk ⟨fun h => absurd h (by simp), fun _ h => absurd h (by simp)⟩ (Nat.le_refl _) (by decide)
  have h0l := digN_len []
  have h0b := digN_byte []
  have h0t := none_text
  generalize digN [] = D0 at SM h0l h0b h0t
  have h0s : (Tryd.prog.info? 22).map (·.size) = some (Bs D0).toArray.size := by rw [size_dig]; simp [Bs, h0l]
  go_enter Tryd.func3, Tryd.ntmps3
  go_wp2_with fail
  refine SM.mono ?_
  rintro e w1 ⟨rfl, hb1⟩
  simp only []
  go_step
  go_step
  go_step
  go_step
  refine wpList_store_row rfl 22 (.tmp 1) (.tmp 15) rfl w1.heap.size (Bs D0).toArray (by rfl) (by rfl) 22 _ (_root_.Go.heap_alloc_new _ _) h0s (by simp [Bs, h0l]) (one_cell_bs _) ?_
  rw [World.setRow_alloc_new]
  have B2 : Below w.heap.size w (w1.alloc (Obj.cells (Bs D0).toArray 22)) := hb1.alloc hb1.size _
  have R2 : (w1.alloc (Obj.cells (Bs D0).toArray 22)).heap[w1.heap.size]? = some (.cells (Bs D0).toArray 22 (0, 0)) := _root_.Go.heap_alloc_new _ _
  generalize w1.heap.size = g1 at R2 ⊢
  generalize w1.alloc (Obj.cells (Bs D0).toArray 22) = W2 at B2 R2 ⊢
  clear SM hb1
  simp only [Act.put]
  -- the seal
  have cv1 := conv_lit W2 #[.int .u8 107, .int .u8 101, .int .u8 121] 3 rfl
  have B3 : Below W2.heap.size W2 ((W2.alloc (.cells (Bs keyL).toArray 5)).freeze ⟨W2.heap.size, 3, none⟩ 1) := Lib.below_freeze ((Below.refl _ _).alloc (Nat.le_refl _) _) (Nat.le_refl _) 1
  have BI1 := bin_lit W2 keyL 3 (by decide)
  go_upto_region 2 with fail
  go_step
  go_step
  go_step
  go_step
  go_step
  go_step
  go_step
  change wpList _ _ _ _ _ ((W2.alloc (.cells (Bs keyL).toArray 5)).freeze ⟨W2.heap.size, 3, none⟩ 1)
  generalize (W2.alloc (.cells (Bs keyL).toArray 5)).freeze ⟨W2.heap.size, 3, none⟩ 1 = W3 at B3 BI1 ⊢
  clear cv1
  have cv2 := conv_lit W3 #[.int .u8 84, .int .u8 104, .int .u8 101, .int .u8 32, .int .u8 113, .int .u8 117, .int .u8 105, .int .u8 99, .int .u8 107, .int .u8 32, .int .u8 98, .int .u8 114, .int .u8 111, .int .u8 119, .int .u8 110, .int .u8 32, .int .u8 102, .int .u8 111, .int .u8 120, .int .u8 32, .int .u8 106, .int .u8 117, .int .u8 109, .int .u8 112, .int .u8 115, .int .u8 32, .int .u8 111, .int .u8 118, .int .u8 101, .int .u8 114, .int .u8 32, .int .u8 116, .int .u8 104, .int .u8 101, .int .u8 32, .int .u8 108, .int .u8 97, .int .u8 122, .int .u8 121, .int .u8 32, .int .u8 100, .int .u8 111, .int .u8 103] 43 rfl
  have B4 : Below W3.heap.size W3 ((W3.alloc (.cells (Bs foxL).toArray 5)).freeze ⟨W3.heap.size, 43, none⟩ 1) := Lib.below_freeze ((Below.refl _ _).alloc (Nat.le_refl _) _) (Nat.le_refl _) 1
  have BI2 := bin_lit W3 foxL 43 (by decide)
  go_step
  go_step
  go_step
  go_step
  go_step
  go_step
  change wpList _ _ _ _ _ ((W3.alloc (.cells (Bs foxL).toArray 5)).freeze ⟨W3.heap.size, 43, none⟩ 1)
  generalize (W3.alloc (.cells (Bs foxL).toArray 5)).freeze ⟨W3.heap.size, 43, none⟩ 1 = W4 at B4 BI2 ⊢
  clear cv2
  have BW3 := below_go B2 B3
  have BW4 := below_go BW3 B4
  have SE := sealed_any (some ⟨W2.heap.size, 0, none⟩) (some ⟨W3.heap.size, 0, none⟩) 3 43 keyL foxL W4 (hk.below BW4 hk.pos) (BI1.below B4) (by decide) BI2 (by decide) (by decide) (by decide)
  have h1l := sealN_len keyL foxL
  have h1b := sealN_byte keyL foxL
  have h1t := fox_text
  generalize sealN keyL foxL = S at SE h1l h1b h1t
  have h1s : (Tryd.prog.info? 22).map (·.size) = some (Bs S).toArray.size := by rw [size_dig]; simp [Bs, h1l]
  replace SE : Calls Tryd.prog 9 #[.slice (some ⟨W2.heap.size, 0, none⟩) 3 3, .slice (some ⟨W3.heap.size, 0, none⟩) 43 43] W4 fun e w' => e = .returned (.agg (Bs S).toArray) ∧ Below W4.heap.size W4 w' := SE
  generalize W2.heap.size = a2 at SE ⊢
  generalize W3.heap.size = a3 at SE ⊢
  have R4 := (BW34 B3 B4 (row_lt R2)).trans R2
  clear BI1 BI2 B3 B4 R2
  go_wp2_with fail
  refine SE.mono ?_
  rintro e w5 ⟨rfl, hb5⟩
  have R5 := (hb5.block _ (row_lt R4)).trans R4
  have BW5 := below_go BW4 hb5
  simp only []
  go_step
  go_step
  go_step
  go_step
  refine wpList_store_row rfl 22 (.tmp 2) (.tmp 20) rfl w5.heap.size (Bs S).toArray (by rfl) (by rfl) 22 _ (_root_.Go.heap_alloc_new _ _) h1s (by simp [Bs, h1l]) (one_cell_bs _) ?_
  rw [World.setRow_alloc_new]
  have BW6 : Below w.heap.size w (w5.alloc (Obj.cells (Bs S).toArray 22)) := BW5.alloc BW5.size _
  have RS : (w5.alloc (Obj.cells (Bs S).toArray 22)).heap[w5.heap.size]? = some (.cells (Bs S).toArray 22 (0, 0)) := _root_.Go.heap_alloc_new _ _
  have R6 : (w5.alloc (Obj.cells (Bs S).toArray 22)).heap[g1]? = some (.cells (Bs D0).toArray 22 (0, 0)) := (_root_.Go.heap_alloc_old _ _ (row_lt R5)).trans R5
  have sl1 := slice_dig g1
  have sl2 := slice_dig w5.heap.size
  generalize w5.heap.size = g2 at RS sl2 ⊢
  generalize w5.alloc (Obj.cells (Bs S).toArray 22) = W6 at RS R6 BW6 ⊢
  clear SE hb5 R5 R4 BW5 h0s h1s
  simp only [Act.put]
  have HX1 := hex_any (some ⟨g1, 0, none⟩) 32 D0 W6 (bin_dig R6 h0b) (by omega)
  rw [h0l, h0t] at HX1
  have e0 : (noneS.toList == [101, 51, 98, 48, 99, 52, 52, 50, 57, 56, 102, 99, 49, 99, 49, 52, 57, 97, 102, 98, 102, 52, 99, 56, 57, 57, 54, 102, 98, 57, 50, 52, 50, 55, 97, 101, 52, 49, 101, 52, 54, 52, 57, 98, 57, 51, 52, 99, 97, 52, 57, 53, 57, 57, 49, 98, 55, 56, 53, 50, 98, 56, 53, 53]) = true := by rw [Lib.toList_data]; decide
  have e1 : (foxS.toList == [102, 55, 98, 99, 56, 51, 102, 52, 51, 48, 53, 51, 56, 52, 50, 52, 98, 49, 51, 50, 57, 56, 101, 54, 97, 97, 54, 102, 98, 49, 52, 51, 101, 102, 52, 100, 53, 57, 97, 49, 52, 57, 52, 54, 49, 55, 53, 57, 57, 55, 52, 55, 57, 100, 98, 99, 50, 100, 49, 97, 51, 99, 100, 56]) = true := by rw [Lib.toList_data]; decide
  clear h0t h0b
  go_wp2_with fail
  refine HX1.mono ?_
  rintro e w7 ⟨rfl, hb7⟩
  have HX2 := hex_any (some ⟨g2, 0, none⟩) 32 S w7 (bin_dig ((hb7.block _ (row_lt RS)).trans RS) h1b) (by omega)
  rw [h1l, h1t] at HX2
  have BW7 := below_go BW6 hb7
  clear HX1 h1t h1b
  simp only []
  go_wp2_with fail
  refine HX2.mono ?_
  rintro e w8 ⟨rfl, hb8⟩
  have BW8 := below_go BW7 hb8
  clear HX2 hb7 hb8 RS R6
  simp only []
  go_upto_region 4 with fail
  clear e0 e1 sl1 sl2
  have U1 := unhex_any ⟨#[48, 97, 70, 70]⟩ w8 (by decide)
  rw [show numsOf ⟨#[48, 97, 70, 70]⟩ = [48, 97, 70, 70] from rfl] at U1
  go_wp2_with fail
  refine U1.mono ?_
  intro e w9 hu
  cases hu with
  | ok r v h he ho hb9 => cases (show unhexN [48, 97, 70, 70] = none from by decide).symm.trans h
  | no h he hb9 =>
  subst he
  have BW9 := below_go BW8 hb9
  have U2 := unhex_any ⟨#[97, 98, 99]⟩ w9 (by decide)
  rw [show numsOf ⟨#[97, 98, 99]⟩ = [97, 98, 99] from rfl] at U2
  clear U1
  simp only []
  go_wp2_with fail
  refine U2.mono ?_
  intro e w10 hu
  cases hu with
  | ok r v h he ho hb10 => cases (show unhexN [97, 98, 99] = none from by decide).symm.trans h
  | no h he hb10 =>
  subst he
  have BW10 := below_go BW9 hb10
  have U3 := unhex_any ⟨#[48, 48, 102, 102]⟩ w10 (by decide)
  rw [show numsOf ⟨#[48, 48, 102, 102]⟩ = [48, 48, 102, 102] from rfl] at U3
  clear U2
  simp only []
  go_wp2_with fail
  refine U3.mono ?_
  intro e w11 hu
  cases hu with
  | no h he hb11 => exact absurd h (by decide)
  | ok r v h he ho hb11 =>
  obtain rfl : [0, 255] = r := Option.some.inj ((show unhexN [48, 48, 102, 102] = some [0, 255] from by decide).symm.trans h)
  subst he
  have BW11 := below_go BW10 hb11
  obtain ⟨p3, c3, rfl, hc3, hi3, _⟩ := owns_bin ho (by decide)
  obtain ⟨b3, o3, rfl, hcell3⟩ := hi3.1 (by decide)
  have ce0 : w11.cell? ⟨b3, o3, none⟩ = some (.int .u8 0) := hcell3 0 (by decide)
  have ce1 : w11.cell? ⟨b3, o3 + 1, none⟩ = some (.int .u8 255) := hcell3 1 (by decide)
  clear U3 ho hi3 hcell3
  have PA := fun w' => pass_times ⟨#[97]⟩ ⟨#[98]⟩ 0 w' (by decide) (by decide) (.inl (by decide))
  have PB := fun w' => pass_times ⟨#[97]⟩ ⟨#[98]⟩ 65 w' (by decide) (by decide) (.inr (by decide))
  simp only []
  go_upto_region 8 with (go_at_call 12; refine (PA _).mono ?_; rintro e w12 ⟨rfl, rfl⟩)
  go_upto_region 10 with (go_at_call 12; refine (PB _).mono ?_; rintro e w13 ⟨rfl, rfl⟩)
  clear ce0 ce1 PA PB
  go_wp2_with fail
  refine (alive_any _ (hk.below BW11 hk.pos)).mono ?_
  rintro e w14 ⟨rfl, hb14⟩
  have BW14 := below_go BW11 hb14
  have SA := same_any none none 0 0 [] [] w14 ⟨fun h => absurd h (by simp), fun _ h => absurd h (by simp)⟩ ⟨fun h => absurd h (by simp), fun _ h => absurd h (by simp)⟩ (by decide)
  rw [show decide (([] : List Nat) = []) = true from rfl] at SA
  simp only []
  go_wp2_with fail
  refine SA.mono ?_
  rintro e w15 ⟨rfl, hb15⟩
  have BW15 := below_go BW14 hb15
  clear SA
  simp only []
  have cvA := conv_lit w15 #[.int .u8 97] 1 rfl
  have BA : Below w15.heap.size w15 ((w15.alloc (.cells #[.int .u8 97] 5)).freeze ⟨w15.heap.size, 1, none⟩ 1) := Lib.below_freeze ((Below.refl _ _).alloc (Nat.le_refl _) _) (Nat.le_refl _) 1
  have IA : BIn ((w15.alloc (.cells #[.int .u8 97] 5)).freeze ⟨w15.heap.size, 1, none⟩ 1) (some ⟨w15.heap.size, 0, none⟩) [97] := bin_lit w15 [97] 1 (by decide)
  have hwa : (w15.alloc (.cells #[.int .u8 97] 5)).freeze ⟨w15.heap.size, 1, none⟩ 1 = (w15.alloc (.cells #[.int .u8 97] 5)).freeze ⟨w15.heap.size, 1, none⟩ 1 := rfl
  generalize hWA : (w15.alloc (.cells #[.int .u8 97] 5)).freeze ⟨w15.heap.size, 1, none⟩ 1 = WA at cvA BA IA
  have cvB := conv_lit WA #[.int .u8 98] 1 rfl
  have BB : Below WA.heap.size WA ((WA.alloc (.cells #[.int .u8 98] 5)).freeze ⟨WA.heap.size, 1, none⟩ 1) := Lib.below_freeze ((Below.refl _ _).alloc (Nat.le_refl _) _) (Nat.le_refl _) 1
  have IB : BIn ((WA.alloc (.cells #[.int .u8 98] 5)).freeze ⟨WA.heap.size, 1, none⟩ 1) (some ⟨WA.heap.size, 0, none⟩) [98] := bin_lit WA [98] 1 (by decide)
  generalize hWB : (WA.alloc (.cells #[.int .u8 98] 5)).freeze ⟨WA.heap.size, 1, none⟩ 1 = WB at cvB BB IB
  clear hWA hWB hwa
  have SB := same_any (some ⟨w15.heap.size, 0, none⟩) (some ⟨WA.heap.size, 0, none⟩) 1 1 [97] [98] WB (IA.below BB) IB (by decide)
  rw [show decide ([97] = [98]) = false from by decide] at SB
  go_wp2_with fail
  refine SB.mono ?_
  rintro e w16 ⟨rfl, hb16⟩
  simp only []
  go_wp2
  go_ret
  exact ⟨rfl, below_go (below_go (below_go BW15 BA) BB) hb16⟩
end Go.Proofs.YtiimabaadehkiaaDoor
