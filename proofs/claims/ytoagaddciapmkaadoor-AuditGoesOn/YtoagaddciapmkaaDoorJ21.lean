/-
  The seal by a secret: the document's.
-/
import Derived.Test.YtoagaddciapmkaaDoorJ14
namespace Go.Proofs.YtoagaddciapmkaaDoor
open Go.RowKit Go.WideShapes Go.Maps

theorem map_getD {l : List Nat} (f : Nat → Nat) {k : Nat} (h : k < l.length) : (l.map f).getD k 0 = f (l.getD k 0) := by
  simp [List.getD, List.getElem?_eq_getElem h]
inductive RKeyI (w : World) (T : List Nat) (m : Nat) (t : Value) (wr : World) : Prop where
  | intro (k : Nat) (hk : k ≤ m) (ht : t = .int .i64 (k : Int)) (h0 : wr.heap[w.heap.size]? = some (.cells (Bs (List.replicate 32 0)).toArray 23 (0, 0))) (h1 : wr.heap[w.heap.size + 1]? = some (.cells (Bs (fillN T 64 k)).toArray 66 (0, 0))) (hb : Below w.heap.size w wr)
inductive RInI (w : World) (bx : List Box) (A C : List Nat) (v u t : Value) (wr : World) : Prop where
  | intro (k : Nat) (hk : k ≤ 64) (ht : t = .int .i64 (k : Int)) (h : Gw2 w bx wr v (A.take k) u (C.take k))
inductive ROutI (w : World) (bx : List Box) (O D : List Nat) (u t : Value) (wr : World) : Prop where
  | intro (k : Nat) (hk : k ≤ 32) (ht : t = .int .i64 (k : Int)) (h : Gw w bx wr u (O ++ D.take k))
set_option maxHeartbeats 2000000 in
set_option maxRecDepth 100000 in
theorem rsealed_any (p q : Option Addr) (c d : Nat) (xs ys : List Nat) (w : World) (hb : BIn w p xs) (hp : p = none → c = 0) (hb2 : BIn w q ys) (hq : q = none → d = 0) (hsz : xs.length ≤ 100000000) (hsz2 : ys.length ≤ 100000000) :
    Calls Tryd.prog 13 #[.slice p xs.length c, .slice q ys.length d] w fun e w' => e = .returned (.agg (Bs (sealN xs ys)).toArray) ∧ Below w.heap.size w w' := by
  have hKl := keyN_len xs
  have hKb := keyN_byte hb.2
  have B2 := below_al2 w (Obj.cells (Bs (List.replicate 32 0)).toArray 23) (Obj.cells (Bs (List.replicate 64 0)).toArray 66)
  have N0 := al2_0 w (Obj.cells (Bs (List.replicate 32 0)).toArray 23) (Obj.cells (Bs (List.replicate 64 0)).toArray 66)
  have N1 := al2_1 w (Obj.cells (Bs (List.replicate 32 0)).toArray 23) (Obj.cells (Bs (List.replicate 64 0)).toArray 66)
  have HSE : Hid (sealN xs ys = digN ((keyN xs).map (· ^^^ 92) ++ digN ((keyN xs).map (· ^^^ 54) ++ ys))) := rfl
  go_enter Tryd.func13, Tryd.ntmps13
  by_cases h64 : xs.length ≤ 64
  · have hI : ¬ ((64 : Int) < (xs.length : Int)) := by omega
    have hkey : Hid (keyN xs = xs ++ List.replicate (64 - xs.length) 0) := by show _ = _; unfold keyN; rw [if_neg (by omega)]
    have hkat : ∀ k, k < xs.length → (keyN xs).getD k 0 = xs.getD k 0 := fun k hk => by rw [hkey.out]; simp [List.getD, List.getElem?_append_left hk]
    have hfin : Hid (fillN (keyN xs) 64 xs.length = keyN xs) := by show _ = _; rw [hkey.out]; exact fill_done xs 64
    generalize keyN xs = K at hKl hKb HSE hkat hfin
    have HKA : Hid _ := hkat
    clear hkat hkey
    go_upto_region 8 with fail
    change Code.wp _ _ _ _ ((w.alloc (Obj.cells (Bs (List.replicate 32 0)).toArray 23)).alloc (Obj.cells (Bs (List.replicate 64 0)).toArray 66))
    generalize (w.alloc (Obj.cells (Bs (List.replicate 32 0)).toArray 23)).alloc (Obj.cells (Bs (List.replicate 64 0)).toArray 66) = W at B2 N0 N1 ⊢
    go_wp2
    go_loopw [8] (fun t wr => RKeyI w K xs.length t wr) (fun t _ => xs.length - (intOf t).toNat)
    case atStart => exact ⟨0, by omega, rfl, N0, by rw [fill_zero]; exact N1, B2⟩
    case round =>
      obtain ⟨k, hk, rfl, h0, h1, hbl⟩ := hrel
      by_cases hlt : k < xs.length
      · have hbr := hb.below hbl
        obtain ⟨b5, o5, rfl⟩ : ∃ b o, p = some ⟨b, o, none⟩ := by obtain ⟨b, o, e, _⟩ := hbr.1 (by omega); exact ⟨b, o, e⟩
        have hc1 := hbr.cell k hlt
        have hc3 := cell_bs h1 (show k < (fillN K 64 k).length by rw [fill_len hKl (by omega)]; omega)
        have hfz : wr.frozen? ⟨w.heap.size + 1, k, none⟩ = false := frozen_of_row wr _ k _ _ h1
        have hlI : (k : Int) < (xs.length : Int) := by omega
        have hl64 : (k : Int) < 64 := by omega
        have HKk := HKA.out k hlt
        have HG : Hid _ := h1
        have HH : Hid _ := HKk
        have g0 := rw_lt h0
        clear h1 HKk
        generalize xs.getD k 0 = x at hc1 HH
        go_wp2
        refine ⟨⟨k + 1, by omega, rfl, ?_, ?_, hbl.setCell (by simp) _⟩, by simp [intOf]; omega⟩
        · rw [heap_setCell_other _ _ _ _ (by simp)]; exact h0
        · rw [heap_setCell_same _ _ _ _ _ _ HG.out, ← HH.out, Bs_set, fill_set hKl (by omega)]
      · obtain rfl : k = xs.length := by omega
        rw [hfin.out] at h1
        have N0' := h0
        have N1' := h1
        have B2' := hbl
        clear N0 N1 B2 h0 h1 hbl hfin
        obtain ⟨bx, hbx⟩ : ∃ bx : List Box, bx = [(w.heap.size, (Bs (List.replicate 32 0)).toArray, 23), (w.heap.size + 1, (Bs K).toArray, 66)] := ⟨_, rfl⟩
        have HBX : Hid _ := hbx
        have G0 : Gw2 w bx wr (.slice none 0 0) [] (.slice none 0 0) [] := by
          have bxs : ∀ b ∈ bx, wr.heap[b.1]? = some (.cells b.2.1 b.2.2 (0, 0)) ∧ (Value.slice none 0 0).ownBlock ≠ some b.1 := by
            intro b hbm
            rw [hbx] at hbm
            simp only [List.mem_cons, List.not_mem_nil, or_false] at hbm
            rcases hbm with rfl | rfl
            · exact ⟨N0', by simp [Value.ownBlock]⟩
            · exact ⟨N1', by simp [Value.ownBlock]⟩
          exact ⟨⟨World.ownsRow_nil _ _ _ _, B2', bxs⟩, ⟨World.ownsRow_nil _ _ _ _, B2', bxs⟩, .inl rfl⟩
        have m1 : (w.heap.size + 1, (Bs K).toArray, 66) ∈ bx := by rw [hbx]; simp
        have m0 : (w.heap.size, (Bs (List.replicate 32 0)).toArray, 23) ∈ bx := by rw [hbx]; simp
        have hAl : (K.map (· ^^^ 54)).length = 64 := by rw [List.length_map, hKl]
        have hCl : (K.map (· ^^^ 92)).length = 64 := by rw [List.length_map, hKl]
        have hAb := xor_byte (c := 54) hKb (by decide)
        have hCb := xor_byte (c := 92) hKb (by decide)
        have HA : Hid (∀ k, k < 64 → (K.map (· ^^^ 54)).getD k 0 = K.getD k 0 ^^^ 54) := fun k hk => map_getD _ (by omega)
        have HC : Hid (∀ k, k < 64 → (K.map (· ^^^ 92)).getD k 0 = K.getD k 0 ^^^ 92) := fun k hk => map_getD _ (by omega)
        generalize K.map (· ^^^ 54) = A at hAl hAb HA HSE
        generalize K.map (· ^^^ 92) = C at hCl hCb HC HSE
        clear hbx N0' N1' B2'
        go_wp2
        go_loopw [9, 10, 11] (fun v u t wr => RInI w bx A C v u t wr) (fun _ _ t _ => 64 - (intOf t).toNat)
        case atStart => exact ⟨0, by omega, rfl, G0⟩
        case round =>
          clear G0
          rename World => w2
          obtain ⟨k, hk, rfl, G⟩ := hrel
          by_cases hlt : k < 64
          · have hc := cell_bs (G.one.box _ m1).1 (show k < K.length by omega)
            have hx := getD_lt hKb k
            have hx1 : bits BinOp.xor IntKind.u8 ((K.getD k 0 : Nat) : Int) 54 = ((K.getD k 0 ^^^ 54 : Nat) : Int) := u8_xor_nat _ 54 hx (by decide)
            have hx2 : bits BinOp.xor IntKind.u8 ((K.getD k 0 : Nat) : Int) 92 = ((K.getD k 0 ^^^ 92 : Nat) : Int) := u8_xor_nat _ 92 hx (by decide)
            have hkI : (k : Int) < 64 := by omega
            have hA1 := HA.out k hlt
            have hC1 := HC.out k hlt
            have b1 : A.getD k 0 < 256 := getD_lt hAb k
            have b2 : C.getD k 0 < 256 := getD_lt hCb k
            rw [← hA1] at hx1
            rw [← hC1] at hx2
            have l1 : (A.take k).length = k := by rw [List.length_take]; omega
            have l2 : (C.take k).length = k := by rw [List.length_take]; omega
            have e1 : Hid (A.take k ++ [A.getD k 0] = A.take (k + 1)) := take_push (by omega)
            have e2 : Hid (C.take k ++ [C.getD k 0] = C.take (k + 1)) := take_push (by omega)
            have hcB : ∀ w', Below w2.heap.size w2 w' → w'.cell? ⟨w.heap.size + 1, k, none⟩ = some (.int .u8 (K.getD k 0 : Nat)) := fun w' hb' => (hb'.cell (World.block_lt_of_cell? _ _ hc)).trans hc
            have HCB : Hid _ := hcB
            clear hcB hA1 hC1
            generalize A.getD k 0 = a1 at hx1 b1 e1
            generalize C.getD k 0 = a2 at hx2 b2 e2
            generalize K.getD k 0 = kx at hc hx hx1 hx2 HCB
            have G1 := G.call (w1 := w2.alloc (.cells #[.int .u8 (a1 : Int)] 5)) ((Below.refl _ _).alloc (Nat.le_refl _) _)
            have sz := G1.one.size
            go_wp2_with (at_builtin; refine wpList_append_bytesX _ rfl _ _ rfl w.heap.size _ (A.take k) [a1] (some ⟨w2.heap.size, 0, none⟩) 1 1 rfl rfl rfl G1.one.own (bin_one _ _ _ rfl b1) (fun h => by cases h) (by rw [l1]; simp; omega) sz ?_)
            intro v3 w3 ho3 hg3 hw3
            have G3 := (G1.app1 (by rw [List.length_append, l1]; exact ho3) hg3 (by simpa using hw3)).eq1 e1.out
            have hc3 := cell_bs (G3.one.box _ m1).1 (show k < K.length by omega)
            have hcE : K.getD k 0 = kx := by
              have h1 := cell_bs (G.one.box _ m1).1 (show k < K.length by omega)
              rw [hc] at h1
              simp only [Option.some.injEq, Value.int.injEq, true_and] at h1
              omega
            rw [hcE] at hc3
            clear hcE ho3 hg3 hw3 G1 G hc
            have G4 := G3.call (w1 := w3.alloc (.cells #[.int .u8 (a2 : Int)] 5)) ((Below.refl _ _).alloc (Nat.le_refl _) _)
            have sz4 := G4.one.size
            go_wp2_with (at_builtin; refine wpList_append_bytesX _ rfl _ _ rfl w.heap.size _ (C.take k) [a2] (some ⟨w3.heap.size, 0, none⟩) 1 1 rfl rfl rfl G4.two.own (bin_one _ _ _ rfl b2) (fun h => by cases h) (by rw [l2]; simp; omega) sz4 ?_)
            intro v5 w5 ho5 hg5 hw5
            have G5 := (G4.app2 (by rw [List.length_append, l2]; exact ho5) hg5 (by simpa using hw5)).eq2 e2.out
            clear ho5 hg5 hw5 G4 G3 hc3
            go_wp2
            go_roundw
            case rel => exact ⟨k + 1, by omega, rfl, G5⟩
            case measure => simp [intOf]; omega
          · obtain rfl : k = 64 := by omega
            rw [show ((64 : Nat) : Int) = 64 from rfl]
            rw [List.take_of_length_le (by omega), List.take_of_length_le (by omega)] at G
            have hb2r := hb2.below G.one.bel
            go_wp2_with (at_builtin; refine wpList_append_bytesX _ rfl _ _ rfl w.heap.size _ A ys q ys.length d rfl rfl rfl G.one.own hb2r hq (by rw [hAl]; omega) G.one.size ?_)
            intro v3 w3 ho3 hg3 hw3
            have ho4 : w3.ownsRow w.heap.size 5 1 v3 (A ++ ys).length (Bs (A ++ ys)) := by rw [List.length_append, hAl]; exact ho3
            have G3 := G.app1 ho4 hg3 hw3
            have hAYb : ∀ x ∈ A ++ ys, x < 256 := by
              intro x hx
              rcases List.mem_append.1 hx with h | h
              · exact hAb x h
              · exact hb2.2 x h
            have hAYl : (A ++ ys).length ≤ 100000064 := by rw [List.length_append, hAl]; omega
            clear ho3 ho4 hg3 hw3 G hb2r
            generalize A ++ ys = AY at G3 hAYb hAYl HSE
            obtain ⟨p5, c5, e5, hc5, hi5, hn5⟩ := owns_bin G3.one.own hAYb
            subst e5
            have hp5 : p5 = none → c5 = 0 := by
              intro e
              rcases G3.one.own.2 with ⟨hv, _⟩ | ⟨g, cap, cur, hv, _⟩
              · simp only [Value.slice.injEq] at hv; omega
              · simp only [Value.slice.injEq] at hv; rw [e] at hv; exact absurd hv.1 (by simp)
            have HS1 := rsum_any p5 c5 AY w3 hi5 hp5 (by omega)
            have hDl2 := digN_len AY
            have hDb2 := digN_byte AY
            generalize digN AY = D2 at HS1 hDl2 hDb2 HSE
            have hDs2 : (Tryd.prog.info? 23).map (·.size) = some (Bs D2).toArray.size := by rw [size_dig]; simp [Bs, hDl2]
            go_wp2_with fail
            refine HS1.mono ?_
            rintro e w6 ⟨rfl, hb6⟩
            have G6 := G3.two.call hb6
            clear HS1 G3 hi5 hn5
            simp only []
            go_step
            go_step
            go_step
            go_step
            refine wpList_store_row rfl 23 (.tmp 12) (.tmp 62) rfl w6.heap.size (Bs D2).toArray (by rfl) (by rfl) 23 _ (_root_.Go.heap_alloc_new _ _) hDs2 (by simp [Bs, hDl2]) (one_cell_bs _) ?_
            rw [World.setRow_alloc_new]
            have G7 := (G6.call (w1 := w6.alloc (Obj.cells (Bs D2).toArray 23)) ((Below.refl _ _).alloc (Nat.le_refl _) _)).add (w6.heap.size, (Bs D2).toArray, 23) (_root_.Go.heap_alloc_new _ _) (fun e => by have := own_lt G6.own e; omega)
            generalize w6.heap.size = g6 at G7 ⊢
            generalize w6.alloc (Obj.cells (Bs D2).toArray 23) = W7 at G7 ⊢
            clear G6 hb6
            go_wp2
            go_loopw [10, 13] (fun u t wr => ROutI w ((g6, (Bs D2).toArray, 23) :: bx) C D2 u t wr) (fun _ t _ => 32 - (intOf t).toNat)
            case atStart => exact ⟨0, by omega, rfl, by rw [List.take_zero, List.append_nil]; exact G7⟩
            case round =>
              clear G7
              rename World => w8
              obtain ⟨k, hk, rfl, G⟩ := hrel
              by_cases hlt : k < 32
              · have hc := cell_bs (G.box _ List.mem_cons_self).1 (show k < D2.length by omega)
                have hx := getD_lt hDb2 k
                have hkI : (k : Int) < 32 := by omega
                have l1 : (C ++ D2.take k).length = 64 + k := by rw [List.length_append, List.length_take]; omega
                have e1 : Hid ((C ++ D2.take k) ++ [D2.getD k 0] = C ++ D2.take (k + 1)) := by show _ = _; rw [List.append_assoc, take_push (by omega)]
                generalize C ++ D2.take k = CK at G l1 e1
                generalize D2.getD k 0 = x at hc hx e1
                have G1 := G.call (w1 := w8.alloc (.cells #[.int .u8 (x : Int)] 5)) ((Below.refl _ _).alloc (Nat.le_refl _) _)
                have sz := G1.size
                go_wp2_with (at_builtin; refine wpList_append_bytesX _ rfl _ _ rfl w.heap.size _ CK [x] (some ⟨w8.heap.size, 0, none⟩) 1 1 rfl rfl rfl G1.own (bin_one _ _ _ rfl hx) (fun h => by cases h) (by rw [l1]; simp; omega) sz ?_)
                intro v3 w9 ho3 hg3 hw3
                have G3 := (G1.app (by rw [List.length_append, l1]; exact ho3) hg3 (by simpa using hw3)).eq e1.out
                clear ho3 hg3 hw3 G1 G hc
                go_wp2
                go_roundw
                case rel => exact ⟨k + 1, by omega, rfl, G3⟩
                case measure => simp [intOf]; omega
              · obtain rfl : k = 32 := by omega
                rw [show ((32 : Nat) : Int) = 32 from rfl]
                rw [List.take_of_length_le (by omega)] at G
                have hOb : ∀ x ∈ C ++ D2, x < 256 := by
                  intro x hx
                  rcases List.mem_append.1 hx with h | h
                  · exact hCb x h
                  · exact hDb2 x h
                have hOl : (C ++ D2).length = 96 := by rw [List.length_append, hCl, hDl2]
                generalize C ++ D2 = O at G hOb hOl HSE
                obtain ⟨p9, c9, e9, hc9, hi9, hn9⟩ := owns_bin G.own hOb
                subst e9
                have hp9 : p9 = none → c9 = 0 := by
                  intro e
                  rcases G.own.2 with ⟨hv, _⟩ | ⟨g, cap, cur, hv, _⟩
                  · simp only [Value.slice.injEq] at hv; omega
                  · simp only [Value.slice.injEq] at hv; rw [e] at hv; exact absurd hv.1 (by simp)
                have HS1 := rsum_any p9 c9 O w8 hi9 hp9 (by omega)
                have hRl := digN_len O
                generalize digN O = R at HS1 hRl HSE
                have hRs : (Tryd.prog.info? 23).map (·.size) = some (Bs R).toArray.size := by rw [size_dig]; simp [Bs, hRl]
                rw [hOl] at HS1 ⊢
                go_wp2_with fail
                refine HS1.mono ?_
                rintro e wA ⟨rfl, hbA⟩
                have NA : wA.heap[w.heap.size]? = some (.cells (Bs (List.replicate 32 0)).toArray 23 (0, 0)) := (hbA.block _ (rw_lt (G.box _ (List.mem_cons_of_mem _ m0)).1)).trans (G.box _ (List.mem_cons_of_mem _ m0)).1
                have BA := below_more G.bel hbA
                simp only []
                go_step
                refine wpList_store_row rfl 23 (.tmp 4) (.tmp 74) rfl _ _ (by rfl) (by rfl) 23 _ NA hRs (by simp [Bs, hRl]) (one_cell_bs _) ?_
                go_wp2
                refine bodyPost_ret (results_cell_row rfl _ _ w.heap.size 23 (Bs R).toArray (0, 0) _ rfl (setRow_heap _ _ _ _ _ _ NA) Tryd.underlying23 rfl hRs) rfl ⟨by rw [HSE.out], ?_⟩
                exact below_setRow BA (Nat.le_refl _)
  · have hI : (64 : Int) < (xs.length : Int) := by omega
    have hDl := digN_len xs
    have hkey : Hid (keyN xs = digN xs ++ List.replicate (64 - (digN xs).length) 0) := by show _ = _; unfold keyN; rw [if_pos (by omega)]
    have hkat : ∀ k, k < 32 → (keyN xs).getD k 0 = (digN xs).getD k 0 := fun k hk => by rw [hkey.out]; simp [List.getD, List.getElem?_append_left (show k < (digN xs).length by omega)]
    have hfin : Hid (fillN (keyN xs) 64 32 = keyN xs) := by show _ = _; rw [hkey.out]; have := fill_done (digN xs) 64; rw [hDl] at this ⊢; exact this
    have hDs : (Tryd.prog.info? 23).map (·.size) = some (Bs (digN xs)).toArray.size := by rw [size_dig]; simp [Bs, digN_len]
    generalize keyN xs = K at hKl hKb HSE hkat hfin
    have HKA : Hid _ := hkat
    clear hkat hkey
    go_upto_region 3 with fail
    change Code.wp _ _ _ _ ((w.alloc (Obj.cells (Bs (List.replicate 32 0)).toArray 23)).alloc (Obj.cells (Bs (List.replicate 64 0)).toArray 66))
    generalize (w.alloc (Obj.cells (Bs (List.replicate 32 0)).toArray 23)).alloc (Obj.cells (Bs (List.replicate 64 0)).toArray 66) = W at B2 N0 N1 ⊢
    go_wp2_with fail
    refine (rsum_any p c xs W (hb.below B2) hp (by omega)).mono ?_
    rintro e w1 ⟨rfl, hb1⟩
    replace N0 := (hb1.block _ (rw_lt N0)).trans N0
    replace N1 := (hb1.block _ (rw_lt N1)).trans N1
    replace B2 := below_more B2 hb1
    simp only []
    go_step
    go_step
    go_step
    go_step
    refine wpList_store_row rfl 23 (.tmp 6) (.tmp 18) rfl w1.heap.size (Bs (digN xs)).toArray (by rfl) (by rfl) 23 _ (_root_.Go.heap_alloc_new _ _) hDs (by simp [Bs, hDl]) (one_cell_bs _) ?_
    rw [World.setRow_alloc_new]
    have D1 : (w1.alloc (Obj.cells (Bs (digN xs)).toArray 23)).heap[w1.heap.size]? = some (.cells (Bs (digN xs)).toArray 23 (0, 0)) := _root_.Go.heap_alloc_new _ _
    have l1 := rw_lt N1
    replace N0 := (_root_.Go.heap_alloc_old _ (Obj.cells (Bs (digN xs)).toArray 23) (rw_lt N0)).trans N0
    replace N1 := (_root_.Go.heap_alloc_old _ (Obj.cells (Bs (digN xs)).toArray 23) (rw_lt N1)).trans N1
    replace B2 := B2.alloc (o := Obj.cells (Bs (digN xs)).toArray 23) B2.size
    generalize w1.heap.size = gd at D1 l1 ⊢
    generalize w1.alloc (Obj.cells (Bs (digN xs)).toArray 23) = W1 at D1 N0 N1 B2 ⊢
    generalize digN xs = D at D1 hDl HKA
    clear hDs hb1
    go_wp2
    go_loopw [7] (fun t wr => RKeyI w K 32 t wr ∧ wr.heap[gd]? = some (.cells (Bs D).toArray 23 (0, 0))) (fun t _ => 32 - (intOf t).toNat)
    case atStart => exact ⟨⟨0, by omega, rfl, N0, by rw [fill_zero]; exact N1, B2⟩, D1⟩
    case round =>
      clear D1
      obtain ⟨⟨k, hk, rfl, h0, h1, hbl⟩, D1⟩ := hrel
      by_cases hlt : k < 32
      · have hc1 := cell_bs D1 (show k < D.length by omega)
        have hc3 := cell_bs h1 (show k < (fillN K 64 k).length by rw [fill_len hKl (by omega)]; omega)
        have hfz : wr.frozen? ⟨w.heap.size + 1, k, none⟩ = false := frozen_of_row wr _ k _ _ h1
        have hlI : (k : Int) < 32 := by omega
        have hl64 : (k : Int) < 64 := by omega
        have HKk := HKA.out k hlt
        have HG : Hid _ := h1
        have HH : Hid _ := HKk
        have HD1 : Hid _ := D1
        have g0 := rw_lt h0
        clear h1 HKk D1
        generalize D.getD k 0 = x at hc1 HH
        go_wp2
        refine ⟨⟨⟨k + 1, by omega, rfl, ?_, ?_, hbl.setCell (by simp) _⟩, ?_⟩, by simp [intOf]; omega⟩
        · rw [heap_setCell_other _ _ _ _ (by simp)]; exact h0
        · rw [heap_setCell_same _ _ _ _ _ _ HG.out, ← HH.out, Bs_set, fill_set hKl (by omega)]
        · rw [heap_setCell_other _ _ _ _ (by simp; omega)]; exact HD1.out
      · obtain rfl : k = 32 := by omega
        rw [show ((32 : Nat) : Int) = 32 from rfl]
        rw [hfin.out] at h1
        have N0' := h0
        have N1' := h1
        have B2' := hbl
        clear N0 N1 B2 h0 h1 hbl hfin D1
        obtain ⟨bx, hbx⟩ : ∃ bx : List Box, bx = [(w.heap.size, (Bs (List.replicate 32 0)).toArray, 23), (w.heap.size + 1, (Bs K).toArray, 66)] := ⟨_, rfl⟩
        have HBX : Hid _ := hbx
        have G0 : Gw2 w bx wr (.slice none 0 0) [] (.slice none 0 0) [] := by
          have bxs : ∀ b ∈ bx, wr.heap[b.1]? = some (.cells b.2.1 b.2.2 (0, 0)) ∧ (Value.slice none 0 0).ownBlock ≠ some b.1 := by
            intro b hbm
            rw [hbx] at hbm
            simp only [List.mem_cons, List.not_mem_nil, or_false] at hbm
            rcases hbm with rfl | rfl
            · exact ⟨N0', by simp [Value.ownBlock]⟩
            · exact ⟨N1', by simp [Value.ownBlock]⟩
          exact ⟨⟨World.ownsRow_nil _ _ _ _, B2', bxs⟩, ⟨World.ownsRow_nil _ _ _ _, B2', bxs⟩, .inl rfl⟩
        have m1 : (w.heap.size + 1, (Bs K).toArray, 66) ∈ bx := by rw [hbx]; simp
        have m0 : (w.heap.size, (Bs (List.replicate 32 0)).toArray, 23) ∈ bx := by rw [hbx]; simp
        have hAl : (K.map (· ^^^ 54)).length = 64 := by rw [List.length_map, hKl]
        have hCl : (K.map (· ^^^ 92)).length = 64 := by rw [List.length_map, hKl]
        have hAb := xor_byte (c := 54) hKb (by decide)
        have hCb := xor_byte (c := 92) hKb (by decide)
        have HA : Hid (∀ k, k < 64 → (K.map (· ^^^ 54)).getD k 0 = K.getD k 0 ^^^ 54) := fun k hk => map_getD _ (by omega)
        have HC : Hid (∀ k, k < 64 → (K.map (· ^^^ 92)).getD k 0 = K.getD k 0 ^^^ 92) := fun k hk => map_getD _ (by omega)
        generalize K.map (· ^^^ 54) = A at hAl hAb HA HSE
        generalize K.map (· ^^^ 92) = C at hCl hCb HC HSE
        clear hbx N0' N1' B2'
        go_wp2
        go_loopw [9, 10, 11] (fun v u t wr => RInI w bx A C v u t wr) (fun _ _ t _ => 64 - (intOf t).toNat)
        case atStart => exact ⟨0, by omega, rfl, G0⟩
        case round =>
          clear G0
          rename World => w2
          obtain ⟨k, hk, rfl, G⟩ := hrel
          by_cases hlt : k < 64
          · have hc := cell_bs (G.one.box _ m1).1 (show k < K.length by omega)
            have hx := getD_lt hKb k
            have hx1 : bits BinOp.xor IntKind.u8 ((K.getD k 0 : Nat) : Int) 54 = ((K.getD k 0 ^^^ 54 : Nat) : Int) := u8_xor_nat _ 54 hx (by decide)
            have hx2 : bits BinOp.xor IntKind.u8 ((K.getD k 0 : Nat) : Int) 92 = ((K.getD k 0 ^^^ 92 : Nat) : Int) := u8_xor_nat _ 92 hx (by decide)
            have hkI : (k : Int) < 64 := by omega
            have hA1 := HA.out k hlt
            have hC1 := HC.out k hlt
            have b1 : A.getD k 0 < 256 := getD_lt hAb k
            have b2 : C.getD k 0 < 256 := getD_lt hCb k
            rw [← hA1] at hx1
            rw [← hC1] at hx2
            have l1 : (A.take k).length = k := by rw [List.length_take]; omega
            have l2 : (C.take k).length = k := by rw [List.length_take]; omega
            have e1 : Hid (A.take k ++ [A.getD k 0] = A.take (k + 1)) := take_push (by omega)
            have e2 : Hid (C.take k ++ [C.getD k 0] = C.take (k + 1)) := take_push (by omega)
            have hcB : ∀ w', Below w2.heap.size w2 w' → w'.cell? ⟨w.heap.size + 1, k, none⟩ = some (.int .u8 (K.getD k 0 : Nat)) := fun w' hb' => (hb'.cell (World.block_lt_of_cell? _ _ hc)).trans hc
            have HCB : Hid _ := hcB
            clear hcB hA1 hC1
            generalize A.getD k 0 = a1 at hx1 b1 e1
            generalize C.getD k 0 = a2 at hx2 b2 e2
            generalize K.getD k 0 = kx at hc hx hx1 hx2 HCB
            have G1 := G.call (w1 := w2.alloc (.cells #[.int .u8 (a1 : Int)] 5)) ((Below.refl _ _).alloc (Nat.le_refl _) _)
            have sz := G1.one.size
            go_wp2_with (at_builtin; refine wpList_append_bytesX _ rfl _ _ rfl w.heap.size _ (A.take k) [a1] (some ⟨w2.heap.size, 0, none⟩) 1 1 rfl rfl rfl G1.one.own (bin_one _ _ _ rfl b1) (fun h => by cases h) (by rw [l1]; simp; omega) sz ?_)
            intro v3 w3 ho3 hg3 hw3
            have G3 := (G1.app1 (by rw [List.length_append, l1]; exact ho3) hg3 (by simpa using hw3)).eq1 e1.out
            have hc3 := cell_bs (G3.one.box _ m1).1 (show k < K.length by omega)
            have hcE : K.getD k 0 = kx := by
              have h1 := cell_bs (G.one.box _ m1).1 (show k < K.length by omega)
              rw [hc] at h1
              simp only [Option.some.injEq, Value.int.injEq, true_and] at h1
              omega
            rw [hcE] at hc3
            clear hcE ho3 hg3 hw3 G1 G hc
            have G4 := G3.call (w1 := w3.alloc (.cells #[.int .u8 (a2 : Int)] 5)) ((Below.refl _ _).alloc (Nat.le_refl _) _)
            have sz4 := G4.one.size
            go_wp2_with (at_builtin; refine wpList_append_bytesX _ rfl _ _ rfl w.heap.size _ (C.take k) [a2] (some ⟨w3.heap.size, 0, none⟩) 1 1 rfl rfl rfl G4.two.own (bin_one _ _ _ rfl b2) (fun h => by cases h) (by rw [l2]; simp; omega) sz4 ?_)
            intro v5 w5 ho5 hg5 hw5
            have G5 := (G4.app2 (by rw [List.length_append, l2]; exact ho5) hg5 (by simpa using hw5)).eq2 e2.out
            clear ho5 hg5 hw5 G4 G3 hc3
            go_wp2
            go_roundw
            case rel => exact ⟨k + 1, by omega, rfl, G5⟩
            case measure => simp [intOf]; omega
          · obtain rfl : k = 64 := by omega
            rw [show ((64 : Nat) : Int) = 64 from rfl]
            rw [List.take_of_length_le (by omega), List.take_of_length_le (by omega)] at G
            have hb2r := hb2.below G.one.bel
            go_wp2_with (at_builtin; refine wpList_append_bytesX _ rfl _ _ rfl w.heap.size _ A ys q ys.length d rfl rfl rfl G.one.own hb2r hq (by rw [hAl]; omega) G.one.size ?_)
            intro v3 w3 ho3 hg3 hw3
            have ho4 : w3.ownsRow w.heap.size 5 1 v3 (A ++ ys).length (Bs (A ++ ys)) := by rw [List.length_append, hAl]; exact ho3
            have G3 := G.app1 ho4 hg3 hw3
            have hAYb : ∀ x ∈ A ++ ys, x < 256 := by
              intro x hx
              rcases List.mem_append.1 hx with h | h
              · exact hAb x h
              · exact hb2.2 x h
            have hAYl : (A ++ ys).length ≤ 100000064 := by rw [List.length_append, hAl]; omega
            clear ho3 ho4 hg3 hw3 G hb2r
            generalize A ++ ys = AY at G3 hAYb hAYl HSE
            obtain ⟨p5, c5, e5, hc5, hi5, hn5⟩ := owns_bin G3.one.own hAYb
            subst e5
            have hp5 : p5 = none → c5 = 0 := by
              intro e
              rcases G3.one.own.2 with ⟨hv, _⟩ | ⟨g, cap, cur, hv, _⟩
              · simp only [Value.slice.injEq] at hv; omega
              · simp only [Value.slice.injEq] at hv; rw [e] at hv; exact absurd hv.1 (by simp)
            have HS1 := rsum_any p5 c5 AY w3 hi5 hp5 (by omega)
            have hDl2 := digN_len AY
            have hDb2 := digN_byte AY
            generalize digN AY = D2 at HS1 hDl2 hDb2 HSE
            have hDs2 : (Tryd.prog.info? 23).map (·.size) = some (Bs D2).toArray.size := by rw [size_dig]; simp [Bs, hDl2]
            go_wp2_with fail
            refine HS1.mono ?_
            rintro e w6 ⟨rfl, hb6⟩
            have G6 := G3.two.call hb6
            clear HS1 G3 hi5 hn5
            simp only []
            go_step
            go_step
            go_step
            go_step
            refine wpList_store_row rfl 23 (.tmp 12) (.tmp 62) rfl w6.heap.size (Bs D2).toArray (by rfl) (by rfl) 23 _ (_root_.Go.heap_alloc_new _ _) hDs2 (by simp [Bs, hDl2]) (one_cell_bs _) ?_
            rw [World.setRow_alloc_new]
            have G7 := (G6.call (w1 := w6.alloc (Obj.cells (Bs D2).toArray 23)) ((Below.refl _ _).alloc (Nat.le_refl _) _)).add (w6.heap.size, (Bs D2).toArray, 23) (_root_.Go.heap_alloc_new _ _) (fun e => by have := own_lt G6.own e; omega)
            generalize w6.heap.size = g6 at G7 ⊢
            generalize w6.alloc (Obj.cells (Bs D2).toArray 23) = W7 at G7 ⊢
            clear G6 hb6
            go_wp2
            go_loopw [10, 13] (fun u t wr => ROutI w ((g6, (Bs D2).toArray, 23) :: bx) C D2 u t wr) (fun _ t _ => 32 - (intOf t).toNat)
            case atStart => exact ⟨0, by omega, rfl, by rw [List.take_zero, List.append_nil]; exact G7⟩
            case round =>
              clear G7
              rename World => w8
              obtain ⟨k, hk, rfl, G⟩ := hrel
              by_cases hlt : k < 32
              · have hc := cell_bs (G.box _ List.mem_cons_self).1 (show k < D2.length by omega)
                have hx := getD_lt hDb2 k
                have hkI : (k : Int) < 32 := by omega
                have l1 : (C ++ D2.take k).length = 64 + k := by rw [List.length_append, List.length_take]; omega
                have e1 : Hid ((C ++ D2.take k) ++ [D2.getD k 0] = C ++ D2.take (k + 1)) := by show _ = _; rw [List.append_assoc, take_push (by omega)]
                generalize C ++ D2.take k = CK at G l1 e1
                generalize D2.getD k 0 = x at hc hx e1
                have G1 := G.call (w1 := w8.alloc (.cells #[.int .u8 (x : Int)] 5)) ((Below.refl _ _).alloc (Nat.le_refl _) _)
                have sz := G1.size
                go_wp2_with (at_builtin; refine wpList_append_bytesX _ rfl _ _ rfl w.heap.size _ CK [x] (some ⟨w8.heap.size, 0, none⟩) 1 1 rfl rfl rfl G1.own (bin_one _ _ _ rfl hx) (fun h => by cases h) (by rw [l1]; simp; omega) sz ?_)
                intro v3 w9 ho3 hg3 hw3
                have G3 := (G1.app (by rw [List.length_append, l1]; exact ho3) hg3 (by simpa using hw3)).eq e1.out
                clear ho3 hg3 hw3 G1 G hc
                go_wp2
                go_roundw
                case rel => exact ⟨k + 1, by omega, rfl, G3⟩
                case measure => simp [intOf]; omega
              · obtain rfl : k = 32 := by omega
                rw [show ((32 : Nat) : Int) = 32 from rfl]
                rw [List.take_of_length_le (by omega)] at G
                have hOb : ∀ x ∈ C ++ D2, x < 256 := by
                  intro x hx
                  rcases List.mem_append.1 hx with h | h
                  · exact hCb x h
                  · exact hDb2 x h
                have hOl : (C ++ D2).length = 96 := by rw [List.length_append, hCl, hDl2]
                generalize C ++ D2 = O at G hOb hOl HSE
                obtain ⟨p9, c9, e9, hc9, hi9, hn9⟩ := owns_bin G.own hOb
                subst e9
                have hp9 : p9 = none → c9 = 0 := by
                  intro e
                  rcases G.own.2 with ⟨hv, _⟩ | ⟨g, cap, cur, hv, _⟩
                  · simp only [Value.slice.injEq] at hv; omega
                  · simp only [Value.slice.injEq] at hv; rw [e] at hv; exact absurd hv.1 (by simp)
                have HS1 := rsum_any p9 c9 O w8 hi9 hp9 (by omega)
                have hRl := digN_len O
                generalize digN O = R at HS1 hRl HSE
                have hRs : (Tryd.prog.info? 23).map (·.size) = some (Bs R).toArray.size := by rw [size_dig]; simp [Bs, hRl]
                rw [hOl] at HS1 ⊢
                go_wp2_with fail
                refine HS1.mono ?_
                rintro e wA ⟨rfl, hbA⟩
                have NA : wA.heap[w.heap.size]? = some (.cells (Bs (List.replicate 32 0)).toArray 23 (0, 0)) := (hbA.block _ (rw_lt (G.box _ (List.mem_cons_of_mem _ m0)).1)).trans (G.box _ (List.mem_cons_of_mem _ m0)).1
                have BA := below_more G.bel hbA
                simp only []
                go_step
                refine wpList_store_row rfl 23 (.tmp 4) (.tmp 74) rfl _ _ (by rfl) (by rfl) 23 _ NA hRs (by simp [Bs, hRl]) (one_cell_bs _) ?_
                go_wp2
                refine bodyPost_ret (results_cell_row rfl _ _ w.heap.size 23 (Bs R).toArray (0, 0) _ rfl (setRow_heap _ _ _ _ _ _ NA) Tryd.underlying23 rfl hRs) rfl ⟨by rw [HSE.out], ?_⟩
                exact below_setRow BA (Nat.le_refl _)
end Go.Proofs.YtoagaddciapmkaaDoor
