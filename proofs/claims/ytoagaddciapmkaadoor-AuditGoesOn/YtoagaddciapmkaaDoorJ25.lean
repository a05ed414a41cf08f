/-
  A record's digest: the document's.
-/
import Derived.WalkKit
import Derived.WideShapes
import Derived.Deep.RegionHeld3
import Derived.Test.YtoagaddciapmkaaDoorJ24
namespace Go.Proofs.YtoagaddciapmkaaDoor
open Go.RowKit Go.WideShapes

section
variable {P : Program} {ops : Array Oper} {Q : Exit → Act → World → Prop} {md : Region.Mode} {S : World → Prop}

theorem takeH (i d : Nat) {oi : Oper} {v : Value} {fuel : Nat} {listed : Array Bool} {a : Act} {w : World} (hi : ops[i]? = some oi) (hd : oi.dst = some d)
    (hs : Region.noSelect ops = true) (hf : Region.free md ops listed i = true) (hr : (Region.ready md ops listed).contains i = true)
    (hQ : ∀ c a w, Q (.panic c) (a.put oi.dst v) w → Q (.panic c) a w) (hw : Region.wanted oi (yielded ops a.tmps) = true) (hy : ∀ w, S w → (execOp a.eval oi).run P w = .ok (.value v) w) (hS : S w)
    (h : wpAnyH P md ops Q S fuel (listed.setIfInBounds i true) (a.put (some d) v) w) : wpAnyH P md ops Q S (fuel + 1) listed a w :=
  wpAnyH_take hi hs hf hr hQ (Or.inl ⟨hw, hy⟩) hS (by rw [hd]; exact h)
theorem skipH (i d : Nat) {oi : Oper} {fuel : Nat} {listed : Array Bool} {a : Act} {w : World} (hi : ops[i]? = some oi) (hd : oi.dst = some d)
    (hs : Region.noSelect ops = true) (hf : Region.free md ops listed i = true) (hr : (Region.ready md ops listed).contains i = true)
    (hQ : ∀ c a w, Q (.panic c) (a.put oi.dst undef) w → Q (.panic c) a w) (hw : Region.wanted oi (yielded ops a.tmps) = false) (hS : S w)
    (h : wpAnyH P md ops Q S fuel (listed.setIfInBounds i true) (a.put (some d) undef) w) : wpAnyH P md ops Q S (fuel + 1) listed a w :=
  wpAnyH_take hi hs hf hr hQ (Or.inr ⟨hw, rfl⟩) hS (by rw [hd]; exact h)
end
end Go.Proofs.YtoagaddciapmkaaDoor
namespace Go.Proofs.YtoagaddciapmkaaDoor
open Go.RowKit Go.WideShapes Go.Maps

set_option maxHeartbeats 2000000 in
set_option maxRecDepth 100000 in
theorem rhashed_any (S Tm O : Nat) (u d h b : ByteArray) (w : World) (hS : (S : Int) ≤ 9223372036854775807) (hT : (Tm : Int) ≤ 1099511627776) (hO : (O : Int) ≤ 599) (hu : u.size ≤ 32) (hd : d.size ≤ 16384) (hb : b.size ≤ 64) :
    Calls Tryd.prog 58 #[.agg #[.int .i64 (S : Int), .int .i64 (Tm : Int), .string u, .string d, .int .i64 (O : Int), .string h], .string b] w fun e w' => e = .returned (.string (hexD (recN S Tm O u d b))) ∧ Below w.heap.size w w' := by
  have HB := fun w' => rbytes_any S Tm O u d h b w' hS hT hO hu hd hb
  have hl : (recN S Tm O u d b).length ≤ 100000 := by
    unfold recN
    have q1 := txN_len (s := b) (by omega)
    have q2 := txN_len (s := u) (by omega)
    have q3 := txN_len (s := d) (by omega)
    simp only [List.length_append, putN_len]
    omega
  generalize recN S Tm O u d b = X at HB hl
  have hSl := digN_len X
  have hSb := digN_byte X
  have HH : Hid (hexD X = strOf (hexN (digN X))) := rfl
  have SM := fun (p : Option Addr) (c : Nat) w' hb' hp' => rsum_any p c X w' hb' hp' (by omega)
  generalize digN X = D at hSl hSb HH SM
  have hDs : (Tryd.prog.info? 23).map (·.size) = some (Bs D).toArray.size := by rw [size_dig]; simp [Bs, hSl]
  clear hl
  go_enter Tryd.func58, Tryd.ntmps58
  go_upto_region 1 with fail
  have B0 : Below w.heap.size w (w.alloc (.cells #[.int .i64 (S : Int), .int .i64 (Tm : Int), .string u, .string d, .int .i64 (O : Int), .string h] 41)) := (Below.refl _ _).alloc (Nat.le_refl _) _
  go_wp2_with fail
  refine (HB _).mono ?_
  rintro e w1 ⟨⟨p1, d1, rfl, i1, k1, z1⟩, hb1⟩
  have B1 := below_more B0 hb1
  have S1 := SM p1 d1 w1 i1 z1
  clear HB SM hb1 B0 i1 k1 z1
  simp only []
  go_wp2_with fail
  refine S1.mono ?_
  rintro e w2 ⟨rfl, hb2⟩
  have B2 := below_more B1 hb2
  clear S1 B1 hb2
  simp only []
  go_step
  go_step
  go_step
  go_step
  refine wpList_store_row rfl 23 (.tmp 5) (.tmp 11) rfl w2.heap.size (Bs D).toArray (by rfl) (by rfl) 23 _ (_root_.Go.heap_alloc_new _ _) hDs (by simp [Bs, hSl]) (one_cell_bs _) ?_
  rw [World.setRow_alloc_new]
  have d4 : (w2.alloc (Obj.cells (Bs D).toArray 23)).heap[w2.heap.size]? = some (.cells (Bs D).toArray 23 (0, 0)) := _root_.Go.heap_alloc_new _ _
  replace B2 := B2.alloc (o := Obj.cells (Bs D).toArray 23) B2.size
  generalize w2.heap.size = gd at d4 ⊢
  generalize w2.alloc (Obj.cells (Bs D).toArray 23) = W4 at d4 B2 ⊢
  have G0 : Gw W4 [(gd, (Bs D).toArray, 23)] W4 (.slice none 0 0) [] := ⟨World.ownsRow_nil _ _ _ _, Below.refl _ _, fun b hb => by
    simp only [List.mem_cons, List.not_mem_nil, or_false] at hb
    subst hb
    exact ⟨d4, by simp [Value.ownBlock]⟩⟩
  simp only [Act.put]
  clear d4
  go_wp2
  go_loopw [6, 7] (fun u t wr => RPushI W4 [(gd, (Bs D).toArray, 23)] D u t wr) (fun _ t _ => 32 - (intOf t).toNat)
  case atStart => exact ⟨0, by omega, rfl, by rw [List.take_zero]; exact G0⟩
  case round =>
    clear G0
    rename World => w8
    obtain ⟨j, hj, rfl, G⟩ := hrel
    by_cases hlt2 : j < 32
    · have hc := cell_bs (G.box _ List.mem_cons_self).1 (show j < D.length by omega)
      have hx := getD_lt hSb j
      have hjI : (j : Int) < 32 := by omega
      have l1 : (D.take j).length = j := by rw [List.length_take]; omega
      have e1 : Hid (D.take j ++ [D.getD j 0] = D.take (j + 1)) := take_push (by omega)
      generalize D.take j = CK at G l1 e1
      generalize D.getD j 0 = x at hc hx e1
      have G1 := G.call (w1 := w8.alloc (.cells #[.int .u8 (x : Int)] 5)) ((Below.refl _ _).alloc (Nat.le_refl _) _)
      have sz := G1.size
      go_wp2_with (at_builtin; refine wpList_append_bytesX _ rfl _ _ rfl W4.heap.size _ CK [x] (some ⟨w8.heap.size, 0, none⟩) 1 1 rfl rfl rfl G1.own (bin_one _ _ _ rfl hx) (fun h => by cases h) (by rw [l1]; simp; omega) sz ?_)
      intro v3 w9 ho3 hg3 hw3
      have G3 := (G1.app (by rw [List.length_append, l1]; exact ho3) hg3 (by simpa using hw3)).eq e1.out
      clear ho3 hg3 hw3 G1 G hc
      go_wp2
      go_roundw
      case rel => exact ⟨j + 1, by omega, rfl, G3⟩
      case measure => simp [intOf]; omega
    · obtain rfl : j = 32 := by omega
      rw [show ((32 : Nat) : Int) = 32 from rfl]
      rw [List.take_of_length_le (by omega)] at G
      obtain ⟨p9, c9, e9, hi9, hp9⟩ := gw_slice G hSb
      subst e9
      have B9 := below_more B2 G.bel
      have HX := rhex_any p9 c9 D w8 hi9 (by omega)
      rw [hSl] at HX ⊢
      clear G hi9 hp9 B2
      go_wp2_with (go_at_call 40; refine HX.mono ?_; rintro e w3 ⟨rfl, hb3⟩)
      go_ret
      rw [HH.out]
      exact ⟨rfl, below_more B9 hb3⟩
end Go.Proofs.YtoagaddciapmkaaDoor
