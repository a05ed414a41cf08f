import Derived.Test.YtblnoekogdpolaaDoorJCkA
import Derived.Maps.OwnSet
import Derived.StringKeys
namespace Go.Proofs.YtblnoekogdpolaaDoor
open Go.RowKit Go.WideShapes Go.Joins Go.Maps
def litS (s : ByteArray) : Lit := .string s.data.toList
def setS (l : List ByteArray) : DataW Unit := setOf (.agg []) (l.map litS)
theorem setS_snoc (l : List ByteArray) (s : ByteArray) : setS (l ++ [s]) = (setS l).put (litS s) (.agg []) := by
  unfold setS
  rw [List.map_append]
  exact setOf_snoc _ _ _
theorem litS_inj {a b : ByteArray} (h : litS a = litS b) : a = b := by
  apply numsOf_inj
  unfold litS at h
  unfold numsOf
  rw [Lit.string.inj h]
theorem has_setS (l : List ByteArray) (s : ByteArray) : Maps.has (setS l) (litS s) = true ↔ s ∈ l := by
  have hk : ∀ x ∈ l.map litS, WideAt.IsKeyLit x := by
    intro x hx
    obtain ⟨a, _, rfl⟩ := List.mem_map.1 hx
    trivial
  unfold setS
  rw [has_setOf _ _ _ hk, List.any_eq_true]
  constructor
  · rintro ⟨x, hx, h⟩
    obtain ⟨a, ha, rfl⟩ := List.mem_map.1 hx
    rw [← litS_inj ((WideAt.sameKey_iff (show WideAt.IsKeyLit (litS s) from trivial)).1 h)]
    exact ha
  · intro h
    exact ⟨litS s, List.mem_map_of_mem h, WideAt.sameKey_self (show WideAt.IsKeyLit (litS s) from trivial)⟩
theorem map_keyed : Keyed Tryd.prog 9 := string_keyed Tryd.underlying9
theorem unit_zero (w : World) : (zeroValue 135).run Tryd.prog w = .ok (.agg #[]) w := by kernel_rfl
inductive NmI (ns : List ByteArray) (w : World) (t : Value) (wr : World) : Prop where
  | intro (k : Nat) (hk : k ≤ ns.length) (ht : t = .int .i64 (k : Int)) (ho : wr.ownsMap Tryd.prog 9 unitElem w.heap.size k (setS (ns.take k))) (he : nmsE (ns.take k) (ns.drop k) = nmsE [] ns) (hb : Below w.heap.size w wr) (hg : w.heap.size < wr.heap.size)
set_option maxHeartbeats 2000000 in
set_option maxRecDepth 8000 in
theorem names_any (q : Option Addr) (nc : Nat) (ns : List ByteArray) (Z : Nat → Prop) (w : World) (h8 : 8 ≤ w.heap.size) (hL : Laid w) (h : SsIn w Z q ns) (hm : ns.length ≤ nc) (hc : nc ≤ maxLen) :
    Calls Tryd.prog 99 #[.slice q ns.length nc] w fun e w' => e = .returned (.int .i64 (nmsE [] ns : Int)) ∧ Below w.heap.size w w' := by
  have hmm := @run_makeMap Tryd.prog
  have hlen : ns.length ≤ maxLen := Nat.le_trans hm hc
  obtain ⟨N, hN⟩ : ∃ N, ns.length = N := ⟨_, rfl⟩
  have HH : Hid (8 ≤ w.heap.size ∧ Laid w ∧ SsIn w Z q ns ∧ ns.length = N ∧ N ≤ maxLen) := ⟨h8, hL, h, hN, by omega⟩
  rw [hN]
  clear h8 hL h hm hc hlen hN
  go_enter Tryd.func99, Tryd.ntmps99
  go_wp2
  clear hmm
  go_loopw [11] (fun t wr => NmI ns w t wr) (fun t _ => N - (intOf t).toNat)
  case atStart =>
    exact ⟨0, Nat.zero_le _, rfl, World.ownsMap_made _ _ _ _, rfl, (Below.refl _ _).alloc (Nat.le_refl _) _, by simp⟩
  case round =>
    obtain ⟨k, hk, rfl, hown, he, hnx, hg⟩ := hrel
    have hN := HH.out.2.2.2
    by_cases hlt : k < N
    · have hI : (k : Int) < (N : Int) := by omega
      have hmx : (N : Int) ≤ 9223372036854775807 := by have := hN.2; unfold maxLen at this; omega
      have hk0 : (0 : Int) ≤ (k : Int) := by omega
      obtain ⟨ib, io, rfl⟩ := HH.out.2.2.1.addr (by omega)
      have hs := HH.out.2.2.1.at (i := k) (by omega)
      have hcell := below_cell hs hnx
      have hdrop : ns.drop k = ns.getD k ByteArray.empty :: ns.drop (k + 1) := by
        rw [List.drop_eq_getElem_cons (by omega), List.getD_eq_getElem?_getD, List.getElem?_eq_getElem (by omega)]; rfl
      have htake : ns.take (k + 1) = ns.take k ++ [ns.getD k ByteArray.empty] := by
        rw [List.take_add_one, List.getD_eq_getElem?_getD, List.getElem?_eq_getElem (by omega)]; rfl
      rw [hdrop] at he
      generalize ns.getD k ByteArray.empty = s at hcell he htake hs
      have IT := isText_any s wr (HH.out.2.1.below hnx HH.out.1)
      have HM : Hid (∀ w', Below wr.heap.size wr w' → w'.ownsMap Tryd.prog 9 unitElem w.heap.size k (setS (ns.take k)) ∧ Below w.heap.size w w' ∧ w.heap.size < w'.heap.size) := fun w' hb =>
        ⟨hown.kept (row := none) (grown_below hb none) (by simp), below_more hnx hb, Nat.lt_of_lt_of_le hg hb.size⟩
      have HE : Hid (nmsE (ns.take k) (s :: ns.drop (k + 1)) = nmsE [] ns ∧ ns.take (k + 1) = ns.take k ++ [s] ∧ k < N) := ⟨he, htake, hlt⟩
      cases hx : isTx s with
      | false =>
        rw [hx] at IT
        have HR : Hid (nmsE [] ns = 3) := by
          show _ = _
          rw [← he]; simp [nmsE, hx]
        clear hown hg hs hdrop he htake hx hk hlt hN
        go_wp2_with (first | (go_at_call 49; refine IT.mono ?_; rintro e w1 ⟨rfl, hb1⟩) | fail)
        go_ret
        exact ⟨by rw [HR.out]; rfl, (HM.out w1 hb1).2.1⟩
      | true =>
        rw [hx] at IT
        have hsz : s.size ≤ maxLen := by have := ((isTx_iff s).1 hx).1; unfold maxLen; omega
        have hkey : keyOf Tryd.prog 9 (.string s) = some (litS s) := Go.WideMaps.keyOf_string_mk Tryd.underlying9 hsz
        by_cases hmem : s ∈ ns.take k
        · have hhas : Maps.has (setS (ns.take k)) (litS s) = true := (has_setS _ _).2 hmem
          have HR : Hid (nmsE [] ns = 8) := by
            show _ = _
            rw [← he]
            simp only [nmsE]
            rw [if_neg (by rw [hx]; decide), if_pos (mem_nums.2 hmem)]
          clear hown hg hs hdrop he htake hx hk hlt hN hmem
          go_wp2_with (first
            | (go_at_call 49; refine IT.mono ?_; rintro e w1 ⟨rfl, hb1⟩; obtain ⟨hown1, hB1, hg1⟩ := HM.out w1 hb1)
            | (at_lookup; refine wpList_lookup_own_unit _ rfl _ _ 134 rfl 9 135 map_keyed Tryd.underlying134 (unit_zero _) w.heap.size k _ rfl hown1 _ _ rfl hkey ?_; rw [hhas])
            | fail)
          go_ret
          exact ⟨by rw [HR.out]; rfl, hB1.alloc (Nat.le_of_lt hg1) _⟩
        · have hhas : Maps.has (setS (ns.take k)) (litS s) = false := by
            cases hh : Maps.has (setS (ns.take k)) (litS s) with
            | false => rfl
            | true => exact absurd ((has_setS _ _).1 hh) hmem
          have HR : Hid (nmsE (ns.take (k + 1)) (ns.drop (k + 1)) = nmsE [] ns) := by
            show _ = _
            rw [← he, htake]
            simp only [nmsE]
            rw [if_neg (by rw [hx]; decide), if_neg (fun h => hmem (mem_nums.1 h))]
          have hkm : k < maxLen := by omega
          clear hown hg hs hdrop he htake hx hk hlt hN hmem
          go_wp2_with (first
            | (go_at_call 49; refine IT.mono ?_; rintro e w1 ⟨rfl, hb1⟩; obtain ⟨hown1, hB1, hg1⟩ := HM.out w1 hb1)
            | (at_lookup; refine wpList_lookup_own_unit _ rfl _ _ 134 rfl 9 135 map_keyed Tryd.underlying134 (unit_zero _) w.heap.size k _ rfl hown1 _ _ rfl hkey ?_; rw [hhas])
            | (at_mapUpdate; refine wpList_mapUpdate_own _ rfl _ _ _ 134 rfl 9 135 map_keyed Tryd.underlying134 (unitElem (H := Unit)) w.heap.size k _ rfl (hown1.alloc _) hkm _ _ _ rfl rfl hkey _ [] unitElem_mk ?_; intro w2 hown2 hgrow2)
            | fail)
          go_roundw
          case rel =>
            have H := HE.out
            have z2 := hgrow2.size
            simp only [World.size_alloc] at z2
            refine ⟨k + 1, by have := HH.out.2.2.2; omega, by go_num, ?_, HR.out, ?_, by omega⟩
            · rw [H.2.1, setS_snoc]; exact hown2
            · exact below_of_grown (hB1.alloc (Nat.le_of_lt hg1) _) hgrow2 (Nat.le_refl _)
          case measure => have H := HE.out; simp [intOf]; omega
    · obtain rfl : k = N := by omega
      have HR : Hid (nmsE [] ns = 0 ∧ Below w.heap.size w wr) := by
        refine ⟨?_, hnx⟩
        rw [← he, ← hN.1, List.drop_length]; rfl
      clear hown hg he hk hN hnx
      go_wp2
      go_ret
      exact ⟨by rw [HR.out.1]; rfl, HR.out.2⟩
end Go.Proofs.YtblnoekogdpolaaDoor
namespace Go.Proofs.YtblnoekogdpolaaDoor
open Go.RowKit Go.WideShapes Go.Joins
theorem SsIn.below {w w' : World} {Z : Nat → Prop} {q : Option Addr} {ss : List ByteArray} (h : SsIn w Z q ss) (hb : Below w.heap.size w w') : SsIn w' Z q ss :=
  h.mono fun _ _ z hc => ⟨below_cell hc hb, z⟩
set_option maxHeartbeats 4000000 in
set_option maxRecDepth 8000 in
theorem alone_any (k : Nat) (b : Bool) (n : Int) (t : ByteArray) (nq iq : Option Addr) (ns : List ByteArray) (nc il ic : Nat) (hk : k < 256) (d : Nat) (Z : Nat → Prop) (w : World) (h8 : 8 ≤ w.heap.size) (hL : Laid w)
    (hN : SsIn w Z nq ns) (hnc : ns.length ≤ nc) (hnm : nc ≤ maxLen) :
    Calls Tryd.prog 77 #[.agg (jA k b n t nq ns.length nc iq il ic), .int .i64 (d : Int)] w fun e w' => e = .returned (.int .i64 (aloneB k b n t ns il d : Int)) ∧ Below w.heap.size w w' := by
  have b1 := below_new w (.cells (jA k b n t nq ns.length nc iq il ic) 25)
  have n1 := _root_.Go.heap_alloc_new w (.cells (jA k b n t nq ns.length nc iq il ic) 25)
  have L1 := hL.below b1 h8
  have hz1 := b1.size
  have F := hasForm_any k b n t nq iq ns.length nc il ic hk _ (Nat.le_trans h8 hz1) L1
  have HX : Hid (∀ w', Below (w.alloc (.cells (jA k b n t nq ns.length nc iq il ic) 25)).heap.size (w.alloc (.cells (jA k b n t nq ns.length nc iq il ic) 25)) w' → w'.heap[w.heap.size]? = some (.cells (jA k b n t nq ns.length nc iq il ic) 25 (0, 0)) ∧ Below w.heap.size w w') := fun w' hb =>
    ⟨box_below n1 hb, below_more b1 hb⟩
  have IT := fun w' (hb : Below w.heap.size w w') => isText_any t w' (hL.below hb h8)
  have NM := fun w' (hb : Below w.heap.size w w') => names_any nq nc ns Z w' (Nat.le_trans h8 hb.size) (hL.below hb h8) (hN.below hb) hnc hnm
  obtain ⟨⟨c0, c1, c2, c3, c4, c5⟩, f0, f1, f2, f3, f4, f5⟩ := row6_cells n1
  have hA : aloneB k b n t ns il d = if ¬ HasP k b n t ns.length il then 8 else if k = 4 ∧ isTx t = false then 3 else if (k = 5 ∨ k = 6) ∧ 32 < d then 161 else if 1024 < il then 4 else nmsE [] ns := rfl
  obtain ⟨nl, hnl⟩ : ∃ nl, ns.length = nl := ⟨_, rfl⟩
  rw [hnl] at F HX NM c4 f4 hA b1 n1 L1 hz1 c0 c1 c2 c3 c5 f0 f1 f2 f3 f5 ⊢
  obtain ⟨NE, hNE⟩ : ∃ NE, nmsE [] ns = NE := ⟨_, rfl⟩
  rw [hNE] at NM hA
  generalize aloneB k b n t ns il d = AN at hA ⊢
  unfold jA at F HX c0 c1 c2 c3 c4 c5 f0 f1 f2 f3 f4 f5 ⊢
  clear b1 n1 L1 h8 hL hN hnc hnm hz1 hNE hnl
  by_cases hp : ¬ HasP k b n t nl il
  · have HA : Hid (AN = 8) := by show _ = _; rw [hA, if_pos hp]
    rw [decide_eq_false hp] at F
    clear hA hp hk IT NM
    go_enter Tryd.func77, Tryd.ntmps77
    go_wp2_with (first | (go_at_call 98; refine F.mono ?_; rintro e w1 ⟨rfl, hb1⟩; obtain ⟨n1, B1⟩ := HX.out w1 hb1; obtain ⟨⟨y0, y1, y2, y3, y4, y5⟩, g0, g1, g2, g3, g4, g5⟩ := row6_cells n1) | fail)
    go_ret
    exact ⟨by rw [HA.out]; rfl, B1⟩
  have hp := Classical.not_not.1 hp
  rw [if_neg (fun h => h hp)] at hA
  rw [decide_eq_true hp] at F
  have hil : k ≠ 5 → k ≠ 6 → il = 0 := by intro a b; unfold HasP at hp; omega
  by_cases e4 : k = 4
  · subst e4
    have hi := hil (by decide) (by decide)
    subst hi
    simp only [show (((4 : Nat) : Int)) = 4 from rfl] at F HX c0 c1 c2 c3 c4 c5 f0 f1 f2 f3 f4 f5 ⊢
    cases hx : isTx t with
    | false =>
      rw [hx] at IT
      have HA : Hid (AN = 3) := by show _ = _; rw [hA, if_pos ⟨rfl, hx⟩]
      clear hA hp hk NM hil hx
      go_enter Tryd.func77, Tryd.ntmps77
      go_wp2_with (first | (go_at_call 49; refine (IT _ B1).mono ?_; rintro e w2 ⟨rfl, hb2⟩; have n2 := box_below n1 hb2; have B2 := below_more B1 hb2; obtain ⟨⟨x0, x1, x2, x3, x4, x5⟩, p0, p1, p2, p3, p4, p5⟩ := row6_cells n2) | (go_at_call 98; refine F.mono ?_; rintro e w1 ⟨rfl, hb1⟩; obtain ⟨n1, B1⟩ := HX.out w1 hb1; obtain ⟨⟨y0, y1, y2, y3, y4, y5⟩, g0, g1, g2, g3, g4, g5⟩ := row6_cells n1) | fail)
      go_ret
      exact ⟨by rw [HA.out]; rfl, B2⟩
    | true =>
      rw [hx] at IT
      have HA : Hid (AN = NE) := by
        show _ = _
        rw [hA, if_neg (by rw [hx]; simp), if_neg (by omega), if_neg (by omega)]
      clear hA hp hk hil hx
      go_enter Tryd.func77, Tryd.ntmps77
      go_wp2_with (first | (go_at_call 99; refine (NM _ B2).mono ?_; rintro e w3 ⟨rfl, hb3⟩) | (go_at_call 49; refine (IT _ B1).mono ?_; rintro e w2 ⟨rfl, hb2⟩; have n2 := box_below n1 hb2; have B2 := below_more B1 hb2; obtain ⟨⟨x0, x1, x2, x3, x4, x5⟩, p0, p1, p2, p3, p4, p5⟩ := row6_cells n2) | (go_at_call 98; refine F.mono ?_; rintro e w1 ⟨rfl, hb1⟩; obtain ⟨n1, B1⟩ := HX.out w1 hb1; obtain ⟨⟨y0, y1, y2, y3, y4, y5⟩, g0, g1, g2, g3, g4, g5⟩ := row6_cells n1) | fail)
      go_ret
      exact ⟨by rw [HA.out]; rfl, below_more B2 hb3⟩
  have m4 : ((k : Int) == 4) = false := by simpa using fun e : (k : Int) = 4 => e4 (by omega)
  rw [if_neg (fun h => e4 h.1)] at hA
  by_cases e5 : k = 5
  · subst e5
    clear m4
    simp only [show (((5 : Nat) : Int)) = 5 from rfl] at F HX c0 c1 c2 c3 c4 c5 f0 f1 f2 f3 f4 f5 ⊢
    by_cases hd : 32 < d
    · have hdI : (32 : Int) < (d : Int) := by omega
      have HA : Hid (AN = 161) := by show _ = _; rw [hA, if_pos ⟨by decide, hd⟩]
      clear hA hp hk hil hd IT NM e4
      go_enter Tryd.func77, Tryd.ntmps77
      go_wp2_with (first | (go_at_call 98; refine F.mono ?_; rintro e w1 ⟨rfl, hb1⟩; obtain ⟨n1, B1⟩ := HX.out w1 hb1; obtain ⟨⟨y0, y1, y2, y3, y4, y5⟩, g0, g1, g2, g3, g4, g5⟩ := row6_cells n1) | fail)
      go_ret
      exact ⟨by rw [HA.out]; rfl, B1⟩
    · have hdI : ¬ (32 : Int) < (d : Int) := by omega
      rw [if_neg (fun h => hd h.2)] at hA
      by_cases hm : 1024 < il
      · have hmI : (1024 : Int) < (il : Int) := by omega
        have HA : Hid (AN = 4) := by show _ = _; rw [hA, if_pos hm]
        clear hA hp hk hil hd hm IT NM e4
        go_enter Tryd.func77, Tryd.ntmps77
        go_wp2_with (first | (go_at_call 98; refine F.mono ?_; rintro e w1 ⟨rfl, hb1⟩; obtain ⟨n1, B1⟩ := HX.out w1 hb1; obtain ⟨⟨y0, y1, y2, y3, y4, y5⟩, g0, g1, g2, g3, g4, g5⟩ := row6_cells n1) | fail)
        go_ret
        exact ⟨by rw [HA.out]; rfl, B1⟩
      · have hmI : ¬ (1024 : Int) < (il : Int) := by omega
        have HA : Hid (AN = NE) := by show _ = _; rw [hA, if_neg hm]
        clear hA hp hk hil hd hm IT e4
        go_enter Tryd.func77, Tryd.ntmps77
        go_wp2_with (first | (go_at_call 99; refine (NM _ B1).mono ?_; rintro e w3 ⟨rfl, hb3⟩) | (go_at_call 98; refine F.mono ?_; rintro e w1 ⟨rfl, hb1⟩; obtain ⟨n1, B1⟩ := HX.out w1 hb1; obtain ⟨⟨y0, y1, y2, y3, y4, y5⟩, g0, g1, g2, g3, g4, g5⟩ := row6_cells n1) | fail)
        go_ret
        exact ⟨by rw [HA.out]; rfl, below_more B1 hb3⟩
  by_cases e6 : k = 6
  · subst e6
    clear m4
    simp only [show (((6 : Nat) : Int)) = 6 from rfl] at F HX c0 c1 c2 c3 c4 c5 f0 f1 f2 f3 f4 f5 ⊢
    by_cases hd : 32 < d
    · have hdI : (32 : Int) < (d : Int) := by omega
      have HA : Hid (AN = 161) := by show _ = _; rw [hA, if_pos ⟨by decide, hd⟩]
      clear hA hp hk hil hd IT NM e4
      go_enter Tryd.func77, Tryd.ntmps77
      go_wp2_with (first | (go_at_call 98; refine F.mono ?_; rintro e w1 ⟨rfl, hb1⟩; obtain ⟨n1, B1⟩ := HX.out w1 hb1; obtain ⟨⟨y0, y1, y2, y3, y4, y5⟩, g0, g1, g2, g3, g4, g5⟩ := row6_cells n1) | fail)
      go_ret
      exact ⟨by rw [HA.out]; rfl, B1⟩
    · have hdI : ¬ (32 : Int) < (d : Int) := by omega
      rw [if_neg (fun h => hd h.2)] at hA
      by_cases hm : 1024 < il
      · have hmI : (1024 : Int) < (il : Int) := by omega
        have HA : Hid (AN = 4) := by show _ = _; rw [hA, if_pos hm]
        clear hA hp hk hil hd hm IT NM e4
        go_enter Tryd.func77, Tryd.ntmps77
        go_wp2_with (first | (go_at_call 98; refine F.mono ?_; rintro e w1 ⟨rfl, hb1⟩; obtain ⟨n1, B1⟩ := HX.out w1 hb1; obtain ⟨⟨y0, y1, y2, y3, y4, y5⟩, g0, g1, g2, g3, g4, g5⟩ := row6_cells n1) | fail)
        go_ret
        exact ⟨by rw [HA.out]; rfl, B1⟩
      · have hmI : ¬ (1024 : Int) < (il : Int) := by omega
        have HA : Hid (AN = NE) := by show _ = _; rw [hA, if_neg hm]
        clear hA hp hk hil hd hm IT e4
        go_enter Tryd.func77, Tryd.ntmps77
        go_wp2_with (first | (go_at_call 99; refine (NM _ B1).mono ?_; rintro e w3 ⟨rfl, hb3⟩) | (go_at_call 98; refine F.mono ?_; rintro e w1 ⟨rfl, hb1⟩; obtain ⟨n1, B1⟩ := HX.out w1 hb1; obtain ⟨⟨y0, y1, y2, y3, y4, y5⟩, g0, g1, g2, g3, g4, g5⟩ := row6_cells n1) | fail)
        go_ret
        exact ⟨by rw [HA.out]; rfl, below_more B1 hb3⟩
  have m5 : ((k : Int) == 5) = false := by simpa using fun e : (k : Int) = 5 => e5 (by omega)
  have m6 : ((k : Int) == 6) = false := by simpa using fun e : (k : Int) = 6 => e6 (by omega)
  have hi := hil e5 e6
  subst hi
  have HA : Hid (AN = NE) := by show _ = _; rw [hA, if_neg (by omega), if_neg (by omega)]
  clear hA hp hk hil e4 e5 e6 IT
  go_enter Tryd.func77, Tryd.ntmps77
  go_wp2_with (first | (go_at_call 99; refine (NM _ B1).mono ?_; rintro e w3 ⟨rfl, hb3⟩) | (go_at_call 98; refine F.mono ?_; rintro e w1 ⟨rfl, hb1⟩; obtain ⟨n1, B1⟩ := HX.out w1 hb1; obtain ⟨⟨y0, y1, y2, y3, y4, y5⟩, g0, g1, g2, g3, g4, g5⟩ := row6_cells n1) | fail)
  go_ret
  exact ⟨by rw [HA.out]; rfl, below_more B1 hb3⟩
end Go.Proofs.YtblnoekogdpolaaDoor
