import Derived.Test.YtcfalgomcdmdhaaDoorJCkA
import Derived.Maps.OwnSet
import Derived.StringKeys
namespace Go.Proofs.YtcfalgomcdmdhaaDoor
open Go.RowKit Go.WideShapes Go.Joins Go.Maps
def litS (s : ByteArray) : Lit := .string s.data.toList
def setS (l : List ByteArray) : DataW Unit := setOf (.agg []) (l.map litS)
theorem setS_snoc (l : List ByteArray) (s : ByteArray) : setS (l ++ [s]) = (setS l).put (litS s) (.agg []) := by
  unfold setS
  rw [List.map_append]
  exact setOf_snoc _ _ _
theorem litS_inj {a b : ByteArray} (h : litS a = litS b) : a = b := by
  apply numsOf_inj
  unfold litS at h
  unfold numsOf
  rw [Lit.string.inj h]
theorem has_setS (l : List ByteArray) (s : ByteArray) : Maps.has (setS l) (litS s) = true ↔ s ∈ l := by
  have hk : ∀ x ∈ l.map litS, WideAt.IsKeyLit x := by
    intro x hx
    obtain ⟨a, _, rfl⟩ := List.mem_map.1 hx
    trivial
  unfold setS
  rw [has_setOf _ _ _ hk, List.any_eq_true]
  constructor
  · rintro ⟨x, hx, h⟩
    obtain ⟨a, ha, rfl⟩ := List.mem_map.1 hx
    rw [← litS_inj ((WideAt.sameKey_iff (show WideAt.IsKeyLit (litS s) from trivial)).1 h)]
    exact ha
  · intro h
    exact ⟨litS s, List.mem_map_of_mem h, WideAt.sameKey_self (show WideAt.IsKeyLit (litS s) from trivial)⟩
theorem map_keyed : Keyed Tryd.prog 9 := string_keyed Tryd.underlying9
theorem unit_zero (w : World) : (zeroValue 135).run Tryd.prog w = .ok (.agg #[]) w := by kernel_rfl
inductive NmI (ns : List ByteArray) (w : World) (t : Value) (wr : World) : Prop where
  | intro (k : Nat) (hk : k ≤ ns.length) (ht : t = .int .i64 (k : Int)) (ho : wr.ownsMap Tryd.prog 9 unitElem w.heap.size k (setS (ns.take k))) (he : nmsE (ns.take k) (ns.drop k) = nmsE [] ns) (hb : Below w.heap.size w wr) (hg : w.heap.size < wr.heap.size)
set_option maxHeartbeats 2000000 in
set_option maxRecDepth 8000 in
theorem names_any (q : Option Addr) (nc : Nat) (ns : List ByteArray) (Z : Nat → Prop) (w : World) (h8 : 8 ≤ w.heap.size) (hL : Laid w) (h : SsIn w Z q ns) (hm : ns.length ≤ nc) (hc : nc ≤ maxLen) :
    Calls Tryd.prog 99 #[.slice q ns.length nc] w fun e w' => e = .returned (.int .i64 (nmsE [] ns : Int)) ∧ Below w.heap.size w w' := by
  have hmm := @run_makeMap Tryd.prog
  have hlen : ns.length ≤ maxLen := Nat.le_trans hm hc
  obtain ⟨N, hN⟩ : ∃ N, ns.length = N := ⟨_, rfl⟩
  have HH : Hid (8 ≤ w.heap.size ∧ Laid w ∧ SsIn w Z q ns ∧ ns.length = N ∧ N ≤ maxLen) := ⟨h8, hL, h, hN, by omega⟩
  rw [hN]
  clear h8 hL h hm hc hlen hN
  go_enter Tryd.func99, Tryd.ntmps99
  go_wp2
  clear hmm
  go_loopw [11] (fun t wr => NmI ns w t wr) (fun t _ => N - (intOf t).toNat)
  case atStart =>
    exact ⟨0, Nat.zero_le _, rfl, World.ownsMap_made _ _ _ _, rfl, (Below.refl _ _).alloc (Nat.le_refl _) _, by simp⟩
  case round =>
    obtain ⟨k, hk, rfl, hown, he, hnx, hg⟩ := hrel
    have hN := HH.out.2.2.2
    by_cases hlt : k < N
    · have hI : (k : Int) < (N : Int) := by omega
      have hmx : (N : Int) ≤ 9223372036854775807 := by have := hN.2; unfold maxLen at this; omega
      have hk0 : (0 : Int) ≤ (k : Int) := by omega
      obtain ⟨ib, io, rfl⟩ := HH.out.2.2.1.addr (by omega)
      have hs := HH.out.2.2.1.at (i := k) (by omega)
      have hcell := below_cell hs hnx
      have hdrop : ns.drop k = ns.getD k ByteArray.empty :: ns.drop (k + 1) := by
        rw [List.drop_eq_getElem_cons (by omega), List.getD_eq_getElem?_getD, List.getElem?_eq_getElem (by omega)]; rfl
      have htake : ns.take (k + 1) = ns.take k ++ [ns.getD k ByteArray.empty] := by
        rw [List.take_add_one, List.getD_eq_getElem?_getD, List.getElem?_eq_getElem (by omega)]; rfl
      rw [hdrop] at he
      generalize ns.getD k ByteArray.empty = s at hcell he htake hs
      have IT := isText_any s wr (HH.out.2.1.below hnx HH.out.1)
      have HM : Hid (∀ w', Below wr.heap.size wr w' → w'.ownsMap Tryd.prog 9 unitElem w.heap.size k (setS (ns.take k)) ∧ Below w.heap.size w w' ∧ w.heap.size < w'.heap.size) := fun w' hb =>
        ⟨hown.kept (row := none) (grown_below hb none) (by simp), below_more hnx hb, Nat.lt_of_lt_of_le hg hb.size⟩
      have HE : Hid (nmsE (ns.take k) (s :: ns.drop (k + 1)) = nmsE [] ns ∧ ns.take (k + 1) = ns.take k ++ [s] ∧ k < N) := ⟨he, htake, hlt⟩
      cases hx : isTx s with
      | false =>
        rw [hx] at IT
        have HR : Hid (nmsE [] ns = 3) := by
          show _ = _
          rw [← he]; simp [nmsE, hx]
        clear hown hg hs hdrop he htake hx hk hlt hN
        go_wp2_with (first | (go_at_call 49; refine IT.mono ?_; rintro e w1 ⟨rfl, hb1⟩) | fail)
        go_ret
        exact ⟨by rw [HR.out]; rfl, (HM.out w1 hb1).2.1⟩
      | true =>
        rw [hx] at IT
        have hsz : s.size ≤ maxLen := by have := ((isTx_iff s).1 hx).1; unfold maxLen; omega
        have hkey : keyOf Tryd.prog 9 (.string s) = some (litS s) := Go.WideMaps.keyOf_string_mk Tryd.underlying9 hsz
        by_cases hmem : s ∈ ns.take k
        · have hhas : Maps.has (setS (ns.take k)) (litS s) = true := (has_setS _ _).2 hmem
          have HR : Hid (nmsE [] ns = 8) := by
            show _ = _
            rw [← he]
            simp only [nmsE]
            rw [if_neg (by rw [hx]; decide), if_pos (mem_nums.2 hmem)]
          clear hown hg hs hdrop he htake hx hk hlt hN hmem
          go_wp2_with (first
            | (go_at_call 49; refine IT.mono ?_; rintro e w1 ⟨rfl, hb1⟩; obtain ⟨hown1, hB1, hg1⟩ := HM.out w1 hb1)
            | (at_lookup; refine wpList_lookup_own_unit _ rfl _ _ 134 rfl 9 135 map_keyed Tryd.underlying134 (unit_zero _) w.heap.size k _ rfl hown1 _ _ rfl hkey ?_; rw [hhas])
            | fail)
          go_ret
          exact ⟨by rw [HR.out]; rfl, hB1.alloc (Nat.le_of_lt hg1) _⟩
        · have hhas : Maps.has (setS (ns.take k)) (litS s) = false := by
            cases hh : Maps.has (setS (ns.take k)) (litS s) with
            | false => rfl
            | true => exact absurd ((has_setS _ _).1 hh) hmem
          have HR : Hid (nmsE (ns.take (k + 1)) (ns.drop (k + 1)) = nmsE [] ns) := by
            show _ = _
            rw [← he, htake]
            simp only [nmsE]
            rw [if_neg (by rw [hx]; decide), if_neg (fun h => hmem (mem_nums.1 h))]
          have hkm : k < maxLen := by omega
          clear hown hg hs hdrop he htake hx hk hlt hN hmem
          go_wp2_with (first
            | (go_at_call 49; refine IT.mono ?_; rintro e w1 ⟨rfl, hb1⟩; obtain ⟨hown1, hB1, hg1⟩ := HM.out w1 hb1)
            | (at_lookup; refine wpList_lookup_own_unit _ rfl _ _ 134 rfl 9 135 map_keyed Tryd.underlying134 (unit_zero _) w.heap.size k _ rfl hown1 _ _ rfl hkey ?_; rw [hhas])
            | (at_mapUpdate; refine wpList_mapUpdate_own _ rfl _ _ _ 134 rfl 9 135 map_keyed Tryd.underlying134 (unitElem (H := Unit)) w.heap.size k _ rfl (hown1.alloc _) hkm _ _ _ rfl rfl hkey _ [] unitElem_mk ?_; intro w2 hown2 hgrow2)
            | fail)
          go_roundw
          case rel =>
            have H := HE.out
            have z2 := hgrow2.size
            simp only [World.size_alloc] at z2
            refine ⟨k + 1, by have := HH.out.2.2.2; omega, by go_num, ?_, HR.out, ?_, by omega⟩
            · rw [H.2.1, setS_snoc]; exact hown2
            · exact below_of_grown (hB1.alloc (Nat.le_of_lt hg1) _) hgrow2 (Nat.le_refl _)
          case measure => have H := HE.out; simp [intOf]; omega
    · obtain rfl : k = N := by omega
      have HR : Hid (nmsE [] ns = 0 ∧ Below w.heap.size w wr) := by
        refine ⟨?_, hnx⟩
        rw [← he, ← hN.1, List.drop_length]; rfl
      clear hown hg he hk hN hnx
      go_wp2
      go_ret
      exact ⟨by rw [HR.out.1]; rfl, HR.out.2⟩
end Go.Proofs.YtcfalgomcdmdhaaDoor
namespace Go.Proofs.YtcfalgomcdmdhaaDoor
open Go.RowKit Go.WideShapes Go.Joins
theorem SsIn.below {w w' : World} {Z : Nat → Prop} {q : Option Addr} {ss : List ByteArray} (h : SsIn w Z q ss) (hb : Below w.heap.size w w') : SsIn w' Z q ss :=
  h.mono fun _ _ z hc => ⟨below_cell hc hb, z⟩
set_option maxHeartbeats 4000000 in
set_option maxRecDepth 8000 in
theorem alone_any (k : Nat) (b : Bool) (n : Int) (t : ByteArray) (nq iq : Option Addr) (ns : List ByteArray) (nc il ic : Nat) (hk : k < 256) (d : Nat) (Z : Nat → Prop) (w : World) (h8 : 8 ≤ w.heap.size) (hL : Laid w)
    (hN : SsIn w Z nq ns) (hnc : ns.length ≤ nc) (hnm : nc ≤ maxLen) :
    Calls Tryd.prog 77 #[.agg (jA k b n t nq ns.length nc iq il ic), .int .i64 (d : Int)] w fun e w' => e = .returned (.int .i64 (aloneB k b n t ns il d : Int)) ∧ Below w.heap.size w w' := by
  have b1 := below_new w (.cells (jA k b n t nq ns.length nc iq il ic) 25)
  have n1 := _root_.Go.heap_alloc_new w (.cells (jA k b n t nq ns.length nc iq il ic) 25)
  have L1 := hL.below b1 h8
  have hz1 := b1.size
  have F := hasForm_any k b n t nq iq ns.length nc il ic hk _ (Nat.le_trans h8 hz1) L1
  have HX : Hid (∀ w', Below (w.alloc (.cells (jA k b n t nq ns.length nc iq il ic) 25)).heap.size (w.alloc (.cells (jA k b n t nq ns.length nc iq il ic) 25)) w' → w'.heap[w.heap.size]? = some (.cells (jA k b n t nq ns.length nc iq il ic) 25 (0, 0)) ∧ Below w.heap.size w w') := fun w' hb =>
    ⟨box_below n1 hb, below_more b1 hb⟩
  have IT := fun w' (hb : Below w.heap.size w w') => isText_any t w' (hL.below hb h8)
  have NM := fun w' (hb : Below w.heap.size w w') => names_any nq nc ns Z w' (Nat.le_trans h8 hb.size) (hL.below hb h8) (hN.below hb) hnc hnm
  obtain ⟨⟨c0, c1, c2, c3, c4, c5⟩, f0, f1, f2, f3, f4, f5⟩ := row6_cells n1
  have hA : aloneB k b n t ns il d = if ¬ HasP k b n t ns.length il then 8 else if k = 4 ∧ isTx t = false then 3 else if (k = 5 ∨ k = 6) ∧ 32 < d then 161 else if 1024 < il then 4 else nmsE [] ns := rfl
  obtain ⟨nl, hnl⟩ : ∃ nl, ns.length = nl := ⟨_, rfl⟩
  rw [hnl] at F HX NM c4 f4 hA b1 n1 L1 hz1 c0 c1 c2 c3 c5 f0 f1 f2 f3 f5 ⊢
  obtain ⟨NE, hNE⟩ : ∃ NE, nmsE [] ns = NE := ⟨_, rfl⟩
  rw [hNE] at NM hA
  generalize aloneB k b n t ns il d = AN at hA ⊢
  unfold jA at F HX c0 c1 c2 c3 c4 c5 f0 f1 f2 f3 f4 f5 ⊢
  clear b1 n1 L1 h8 hL hN hnc hnm hz1 hNE hnl
  by_cases hp : ¬ HasP k b n t nl il
  · have HA : Hid (AN = 8) := by show _ = _; rw [hA, if_pos hp]
    rw [decide_eq_false hp] at F
    clear hA hp hk IT NM
    go_enter Tryd.func77, Tryd.ntmps77
    go_wp2_with (first | (go_at_call 98; refine F.mono ?_; rintro e w1 ⟨rfl, hb1⟩; obtain ⟨n1, B1⟩ := HX.out w1 hb1; obtain ⟨⟨y0, y1, y2, y3, y4, y5⟩, g0, g1, g2, g3, g4, g5⟩ := row6_cells n1) | fail)
    go_ret
    exact ⟨by rw [HA.out]; rfl, B1⟩
  have hp := Classical.not_not.1 hp
  rw [if_neg (fun h => h hp)] at hA
  rw [decide_eq_true hp] at F
  have hil : k ≠ 5 → k ≠ 6 → il = 0 := by intro a b; unfold HasP at hp; omega
  by_cases e4 : k = 4
  · subst e4
    have hi := hil (by decide) (by decide)
    subst hi
    simp only [show (((4 : Nat) : Int)) = 4 from rfl] at F HX c0 c1 c2 c3 c4 c5 f0 f1 f2 f3 f4 f5 ⊢
    cases hx : isTx t with
    | false =>
      rw [hx] at IT
      have HA : Hid (AN = 3) := by show _ = _; rw [hA, if_pos ⟨rfl, hx⟩]
      clear hA hp hk NM hil hx
      go_enter Tryd.func77, Tryd.ntmps77
      go_wp2_with (first | (go_at_call 49; refine (IT _ B1).mono ?_; rintro e w2 ⟨rfl, hb2⟩; have n2 := box_below n1 hb2; have B2 := below_more B1 hb2; obtain ⟨⟨x0, x1, x2, x3, x4, x5⟩, p0, p1, p2, p3, p4, p5⟩ := row6_cells n2) | (go_at_call 98; refine F.mono ?_; rintro e w1 ⟨rfl, hb1⟩; obtain ⟨n1, B1⟩ := HX.out w1 hb1; obtain ⟨⟨y0, y1, y2, y3, y4, y5⟩, g0, g1, g2, g3, g4, g5⟩ := row6_cells n1) | fail)
      go_ret
      exact ⟨by rw [HA.out]; rfl, B2⟩
    | true =>
      rw [hx] at IT
      have HA : Hid (AN = NE) := by
        show _ = _
        rw [hA, if_neg (by rw [hx]; simp), if_neg (by omega), if_neg (by omega)]
      clear hA hp hk hil hx
      go_enter Tryd.func77, Tryd.ntmps77
      go_wp2_with (first | (go_at_call 99; refine (NM _ B2).mono ?_; rintro e w3 ⟨rfl, hb3⟩) | (go_at_call 49; refine (IT _ B1).mono ?_; rintro e w2 ⟨rfl, hb2⟩; have n2 := box_below n1 hb2; have B2 := below_more B1 hb2; obtain ⟨⟨x0, x1, x2, x3, x4, x5⟩, p0, p1, p2, p3, p4, p5⟩ := row6_cells n2) | (go_at_call 98; refine F.mono ?_; rintro e w1 ⟨rfl, hb1⟩; obtain ⟨n1, B1⟩ := HX.out w1 hb1; obtain ⟨⟨y0, y1, y2, y3, y4, y5⟩, g0, g1, g2, g3, g4, g5⟩ := row6_cells n1) | fail)
      go_ret
      exact ⟨by rw [HA.out]; rfl, below_more B2 hb3⟩
  have m4 : ((k : Int) == 4) = false := by simpa using fun e : (k : Int) = 4 => e4 (by omega)
  rw [if_neg (fun h => e4 h.1)] at hA
  by_cases e5 : k = 5
  · subst e5
    clear m4
    simp only [show (((5 : Nat) : Int)) = 5 from rfl] at F HX c0 c1 c2 c3 c4 c5 f0 f1 f2 f3 f4 f5 ⊢
    by_cases hd : 32 < d
    · have hdI : (32 : Int) < (d : Int) := by omega
      have HA : Hid (AN = 161) := by show _ = _; rw [hA, if_pos ⟨by decide, hd⟩]
      clear hA hp hk hil hd IT NM e4
      go_enter Tryd.func77, Tryd.ntmps77
      go_wp2_with (first | (go_at_call 98; refine F.mono ?_; rintro e w1 ⟨rfl, hb1⟩; obtain ⟨n1, B1⟩ := HX.out w1 hb1; obtain ⟨⟨y0, y1, y2, y3, y4, y5⟩, g0, g1, g2, g3, g4, g5⟩ := row6_cells n1) | fail)
      go_ret
      exact ⟨by rw [HA.out]; rfl, B1⟩
    · have hdI : ¬ (32 : Int) < (d : Int) := by omega
      rw [if_neg (fun h => hd h.2)] at hA
      by_cases hm : 1024 < il
      · have hmI : (1024 : Int) < (il : Int) := by omega
        have HA : Hid (AN = 4) := by show _ = _; rw [hA, if_pos hm]
        clear hA hp hk hil hd hm IT NM e4
        go_enter Tryd.func77, Tryd.ntmps77
        go_wp2_with (first | (go_at_call 98; refine F.mono ?_; rintro e w1 ⟨rfl, hb1⟩; obtain ⟨n1, B1⟩ := HX.out w1 hb1; obtain ⟨⟨y0, y1, y2, y3, y4, y5⟩, g0, g1, g2, g3, g4, g5⟩ := row6_cells n1) | fail)
        go_ret
        exact ⟨by rw [HA.out]; rfl, B1⟩
      · have hmI : ¬ (1024 : Int) < (il : Int) := by omega
        have HA : Hid (AN = NE) := by show _ = _; rw [hA, if_neg hm]
        clear hA hp hk hil hd hm IT e4
        go_enter Tryd.func77, Tryd.ntmps77
        go_wp2_with (first | (go_at_call 99; refine (NM _ B1).mono ?_; rintro e w3 ⟨rfl, hb3⟩) | (go_at_call 98; refine F.mono ?_; rintro e w1 ⟨rfl, hb1⟩; obtain ⟨n1, B1⟩ := HX.out w1 hb1; obtain ⟨⟨y0, y1, y2, y3, y4, y5⟩, g0, g1, g2, g3, g4, g5⟩ := row6_cells n1) | fail)
        go_ret
        exact ⟨by rw [HA.out]; rfl, below_more B1 hb3⟩
  by_cases e6 : k = 6
  · subst e6
    clear m4
    simp only [show (((6 : Nat) : Int)) = 6 from rfl] at F HX c0 c1 c2 c3 c4 c5 f0 f1 f2 f3 f4 f5 ⊢
    by_cases hd : 32 < d
    · have hdI : (32 : Int) < (d : Int) := by omega
      have HA : Hid (AN = 161) := by show _ = _; rw [hA, if_pos ⟨by decide, hd⟩]
      clear hA hp hk hil hd IT NM e4
      go_enter Tryd.func77, Tryd.ntmps77
      go_wp2_with (first | (go_at_call 98; refine F.mono ?_; rintro e w1 ⟨rfl, hb1⟩; obtain ⟨n1, B1⟩ := HX.out w1 hb1; obtain ⟨⟨y0, y1, y2, y3, y4, y5⟩, g0, g1, g2, g3, g4, g5⟩ := row6_cells n1) | fail)
      go_ret
      exact ⟨by rw [HA.out]; rfl, B1⟩
    · have hdI : ¬ (32 : Int) < (d : Int) := by omega
      rw [if_neg (fun h => hd h.2)] at hA
      by_cases hm : 1024 < il
      · have hmI : (1024 : Int) < (il : Int) := by omega
        have HA : Hid (AN = 4) := by show _ = _; rw [hA, if_pos hm]
        clear hA hp hk hil hd hm IT NM e4
        go_enter Tryd.func77, Tryd.ntmps77
        go_wp2_with (first | (go_at_call 98; refine F.mono ?_; rintro e w1 ⟨rfl, hb1⟩; obtain ⟨n1, B1⟩ := HX.out w1 hb1; obtain ⟨⟨y0, y1, y2, y3, y4, y5⟩, g0, g1, g2, g3, g4, g5⟩ := row6_cells n1) | fail)
        go_ret
        exact ⟨by rw [HA.out]; rfl, B1⟩
      · have hmI : ¬ (1024 : Int) < (il : Int) := by omega
        have HA : Hid (AN = NE) := by show _ = _; rw [hA, if_neg hm]
        clear hA hp hk hil hd hm IT e4
        go_enter Tryd.func77, Tryd.ntmps77
        go_wp2_with (first | (go_at_call 99; refine (NM _ B1).mono ?_; rintro e w3 ⟨rfl, hb3⟩) | (go_at_call 98; refine F.mono ?_; rintro e w1 ⟨rfl, hb1⟩; obtain ⟨n1, B1⟩ := HX.out w1 hb1; obtain ⟨⟨y0, y1, y2, y3, y4, y5⟩, g0, g1, g2, g3, g4, g5⟩ := row6_cells n1) | fail)
        go_ret
        exact ⟨by rw [HA.out]; rfl, below_more B1 hb3⟩
  have m5 : ((k : Int) == 5) = false := by simpa using fun e : (k : Int) = 5 => e5 (by omega)
  have m6 : ((k : Int) == 6) = false := by simpa using fun e : (k : Int) = 6 => e6 (by omega)
  have hi := hil e5 e6
  subst hi
  have HA : Hid (AN = NE) := by show _ = _; rw [hA, if_neg (by omega), if_neg (by omega)]
  clear hA hp hk hil e4 e5 e6 IT
  go_enter Tryd.func77, Tryd.ntmps77
  go_wp2_with (first | (go_at_call 99; refine (NM _ B1).mono ?_; rintro e w3 ⟨rfl, hb3⟩) | (go_at_call 98; refine F.mono ?_; rintro e w1 ⟨rfl, hb1⟩; obtain ⟨n1, B1⟩ := HX.out w1 hb1; obtain ⟨⟨y0, y1, y2, y3, y4, y5⟩, g0, g1, g2, g3, g4, g5⟩ := row6_cells n1) | fail)
  go_ret
  exact ⟨by rw [HA.out]; rfl, below_more B1 hb3⟩
end Go.Proofs.YtcfalgomcdmdhaaDoor
namespace Go.Proofs.YtcfalgomcdmdhaaDoor
open Go.RowKit Go.WideShapes Go.Joins
inductive RfI (vs : List JB) (d : Nat) (w : World) (t : Value) (wr : World) : Prop where
  | intro (k : Nat) (hk : k ≤ vs.length) (ht : t = .int .i64 (k : Int)) (he : chksB (vs.drop k) (d + 1) = chksB vs (d + 1)) (hb : Below w.heap.size w wr)
set_option maxHeartbeats 4000000 in
set_option maxRecDepth 8000 in
theorem refused_walk (k : Nat) (b : Bool) (n : Int) (t : ByteArray) (ns : List ByteArray) (vs : List JB) (nq iq : Option Addr) (nc ic : Nat) (F : Nat → Array Value) (Z : Nat → Prop) (d : Nat) (hd : d ≤ 40) (w : World) (h8 : 8 ≤ w.heap.size) (hL : Laid w)
    (h : JIn w Z (jA k b n t nq ns.length nc iq vs.length ic) (.mk k b n t ns vs)) (hI : VsIn w Z iq F vs.length) (hR : ∀ i x, vs[i]? = some x → JIn w Z (F i) x)
    (hcall : aloneB k b n t ns vs.length d = 0 → ∀ i x, vs[i]? = some x → ∀ w', Below w.heap.size w w' → Calls Tryd.prog 43 #[.agg (F i), .int .i64 ((d + 1 : Nat) : Int)] w' fun e w'' => e = .returned (.int .i64 (chkB x (d + 1) : Int)) ∧ Below w'.heap.size w' w'') :
    Calls Tryd.prog 43 #[.agg (jA k b n t nq ns.length nc iq vs.length ic), .int .i64 (d : Int)] w fun e w' => e = .returned (.int .i64 (chkB (.mk k b n t ns vs) d : Int)) ∧ Below w.heap.size w w' := by
  have b1 := below_new w (.cells (jA k b n t nq ns.length nc iq vs.length ic) 25)
  have n1 := _root_.Go.heap_alloc_new w (.cells (jA k b n t nq ns.length nc iq vs.length ic) 25)
  have hz1 := b1.size
  obtain ⟨hk, hnc, hnm, hN⟩ : k < 256 ∧ ns.length ≤ nc ∧ nc ≤ maxLen ∧ SsIn w Z nq ns := by
    generalize hA : jA k b n t nq ns.length nc iq vs.length ic = A at h
    generalize hV : JB.mk k b n t ns vs = V at h
    cases h with
    | mk k' b' n' t' ns' vs' nq' iq' nc' ic' F' hk hn hnc hic hnm him hnq hiq hN hI hR =>
      cases hV
      unfold jA at hA
      simp only [Array.mk.injEq, List.cons.injEq, Value.slice.injEq, and_true, true_and] at hA
      obtain ⟨⟨rfl, rfl⟩, _⟩ := hA
      exact ⟨hk, hnc, hnm, hN⟩
  have AL := alone_any k b n t nq iq ns nc vs.length ic hk d Z _ (Nat.le_trans h8 hz1) (hL.below b1 h8) (hN.below b1) hnc hnm
  have hC : chkB (.mk k b n t ns vs) d = if aloneB k b n t ns vs.length d = 0 then chksB vs (d + 1) else aloneB k b n t ns vs.length d := rfl
  generalize chkB (.mk k b n t ns vs) d = CN at hC ⊢
  generalize aloneB k b n t ns vs.length d = a at AL hC hcall
  obtain ⟨⟨c0, c1, c2, c3, c4, c5⟩, f0, f1, f2, f3, f4, f5⟩ := row6_cells n1
  have HX : Hid (∀ w', Below (w.alloc (.cells (jA k b n t nq ns.length nc iq vs.length ic) 25)).heap.size (w.alloc (.cells (jA k b n t nq ns.length nc iq vs.length ic) 25)) w' → w'.heap[w.heap.size]? = some (.cells (jA k b n t nq ns.length nc iq vs.length ic) 25 (0, 0)) ∧ Below w.heap.size w w') := fun w' hb =>
    ⟨box_below n1 hb, below_more b1 hb⟩
  by_cases ha : a ≠ 0
  · have HA : Hid (CN = a) := by show _ = _; rw [hC, if_neg ha]
    have hx : ((a : Int) != 0) = true := by simpa using fun e : (a : Int) = 0 => ha (by omega)
    unfold jA at AL HX c0 c1 c2 c3 c4 c5 f0 f1 f2 f3 f4 f5 ⊢
    clear hC ha b1 n1 h8 hL h hI hR hcall hk hnc hnm hN hd hz1
    go_enter Tryd.func43, Tryd.ntmps43
    go_wp2_with (first | (go_at_call 77; refine AL.mono ?_; rintro e w1 ⟨rfl, hb1⟩; obtain ⟨n1, B1⟩ := HX.out w1 hb1) | fail)
    go_ret
    exact ⟨by rw [HA.out]; rfl, B1⟩
  have ha := Classical.not_not.1 ha
  subst ha
  have HA : Hid (CN = chksB vs (d + 1)) := by show _ = _; rw [hC, if_pos rfl]
  have hcall := hcall rfl
  obtain ⟨N, hN2⟩ : ∃ N, vs.length = N := ⟨_, rfl⟩
  have HH : Hid (VsIn w Z iq F N ∧ (∀ i x, vs[i]? = some x → JIn w Z (F i) x) ∧ vs.length = N ∧ d ≤ 40 ∧ ∀ i x, vs[i]? = some x → ∀ w', Below w.heap.size w w' → Calls Tryd.prog 43 #[.agg (F i), .int .i64 ((d + 1 : Nat) : Int)] w' fun e w'' => e = .returned (.int .i64 (chkB x (d + 1) : Int)) ∧ Below w'.heap.size w' w'') :=
    ⟨by rw [← hN2]; exact hI, hR, hN2, hd, hcall⟩
  have hmx : (N : Int) ≤ 9223372036854775807 := by
    have : vs.length ≤ maxLen := by
      generalize hA : jA k b n t nq ns.length nc iq vs.length ic = A at h
      generalize hV : JB.mk k b n t ns vs = V at h
      cases h with
      | mk k' b' n' t' ns' vs' nq' iq' nc' ic' F' hk hn hnc hic hnm him hnq hiq hN hI hR =>
        cases hV
        exact Nat.le_trans hic him
    unfold maxLen at this
    omega
  rw [hN2] at AL HX c0 c1 c2 c3 c4 c5 f0 f1 f2 f3 f4 f5 ⊢
  rw [show (((0 : Nat) : Int)) = 0 from rfl] at AL
  obtain ⟨D, hD⟩ : ∃ D : Int, (d : Int) = D := ⟨_, rfl⟩
  rw [hD] at AL ⊢
  have hw1 : ((d + 1 : Nat) : Int) = D + 1 := by omega
  have HW1 : Hid (((d + 1 : Nat) : Int) = D + 1) := hw1
  clear hw1
  have hD0 : 0 ≤ D := by omega
  have hD1 : D ≤ 40 := by omega
  have HD : Hid ((d : Int) = D) := hD
  unfold jA at AL HX c0 c1 c2 c3 c4 c5 f0 f1 f2 f3 f4 f5 ⊢
  clear hC b1 n1 h8 hL h hI hR hcall hk hnc hnm hN hd hz1 hN2 hD
  go_enter Tryd.func43, Tryd.ntmps43
  go_wp2_with (first | (go_at_call 77; refine AL.mono ?_; rintro e w1 ⟨rfl, hb1⟩; obtain ⟨n1, B1⟩ := HX.out w1 hb1; obtain ⟨⟨y0, y1, y2, y3, y4, y5⟩, g0, g1, g2, g3, g4, g5⟩ := row6_cells n1) | fail)
  clear AL c0 c1 c2 c3 c4 c5 f0 f1 f2 f3 f4 f5 y0 y1 y2 y3 y4 y5 g0 g1 g2 g3 g4 g5
  go_loopw [18] (fun t wr => RfI vs d w t wr) (fun t _ => N - (intOf t).toNat)
  case atStart => exact ⟨0, Nat.zero_le _, rfl, rfl, B1⟩
  case round =>
    clear B1 n1 hb1
    obtain ⟨i, hi, rfl, he, hb⟩ := hrel
    have HB : Hid (Below w.heap.size w wr) := hb
    by_cases hlt : i < N
    · have hiI : (i : Int) < (N : Int) := by omega
      have hi0 : (0 : Int) ≤ (i : Int) := by omega
      have hil : i < vs.length := by rw [HH.out.2.2.1]; exact hlt
      obtain ⟨x, hx⟩ : ∃ x, vs[i]? = some x := ⟨_, List.getElem?_eq_getElem hil⟩
      obtain ⟨ib, io, rfl⟩ := HH.out.1.addr (by omega)
      have hcells := (HH.out.1.at hlt).2
      obtain ⟨k', b', n', t', nq', nl', nc', iq', il', ic', hF⟩ := jin_form (HH.out.2.1 i x hx)
      have HC := HH.out.2.2.2.2 i x hx
      rw [hF] at hcells HC
      have hdrop : vs.drop i = x :: vs.drop (i + 1) := by
        rw [List.drop_eq_getElem_cons hil]
        rw [List.getElem?_eq_getElem hil] at hx
        rw [Option.some.inj hx]
      obtain ⟨z0, z1, z2, z3, z4, z5⟩ := (jat_of hcells).below hb
      have HE : Hid ((if chkB x (d + 1) = 0 then chksB (vs.drop (i + 1)) (d + 1) else chkB x (d + 1)) = chksB vs (d + 1) ∧ i < N) := ⟨by rw [← he, hdrop]; rfl, hlt⟩
      generalize hcx : chkB x (d + 1) = c at HC HE
      rw [HW1.out] at HC
      have BX : Below w.heap.size w (wr.alloc (.cells #[.int .u8 (k' : Int), .bool b', .int .i64 n', .string t', .slice nq' nl' nc', .slice iq' il' ic'] 25)) := hb.alloc hb.size _
      have RX : (wr.alloc (.cells #[.int .u8 (k' : Int), .bool b', .int .i64 n', .string t', .slice nq' nl' nc', .slice iq' il' ic'] 25)).heap[wr.heap.size]? = some (.cells #[.int .u8 (k' : Int), .bool b', .int .i64 n', .string t', .slice nq' nl' nc', .slice iq' il' ic'] 25 (0, 0)) := _root_.Go.heap_alloc_new _ _
      have FX := HC _ BX
      obtain ⟨⟨x0, x1, x2, x3, x4, x5⟩, _, _, _, _, _, _⟩ := row6_cells RX
      unfold jA at FX
      clear hcells hF hdrop he hb HC hx hil hi hcx RX
      by_cases hc0 : c = 0
      · subst hc0
        rw [show (((0 : Nat) : Int)) = 0 from rfl] at FX
        go_wp2_with (first | (go_at_call 43; refine FX.mono ?_; rintro e w3 ⟨rfl, hb3⟩) | fail)
        go_roundw
        case rel =>
          have H := HE.out
          rw [if_pos trivial] at H
          exact ⟨i + 1, by rw [HH.out.2.2.1]; omega, by go_num, H.1, below_more BX hb3⟩
        case measure => have H := HE.out; simp [intOf]; omega
      · have hcI : ((c : Int) != 0) = true := by simpa using fun e : (c : Int) = 0 => hc0 (by omega)
        have HR : Hid (chksB vs (d + 1) = c) := by
          have H := HE.out
          rw [if_neg hc0] at H
          exact H.1.symm
        clear hc0 hlt
        go_wp2_with (first | (go_at_call 43; refine FX.mono ?_; rintro e w3 ⟨rfl, hb3⟩) | fail)
        go_ret
        exact ⟨by rw [HA.out, HR.out]; rfl, below_more BX hb3⟩
    · have hiN : i = N := by have := HH.out.2.2.1; omega
      subst hiN
      have HR : Hid (chksB vs (d + 1) = 0) := by
        show _ = _
        rw [← he, ← HH.out.2.2.1, List.drop_length]; rfl
      clear he hb hi hlt
      go_wp2
      go_ret
      exact ⟨by rw [HA.out, HR.out]; rfl, HB.out⟩
theorem has_items {k : Nat} {b : Bool} {n : Int} {t : ByteArray} {ns : List ByteArray} {nv d : Nat} (h : aloneB k b n t ns nv d = 0) (hv : 0 < nv) : d ≤ 32 := by
  unfold aloneB at h
  split at h
  · cases h
  rename_i hp
  have hp := Classical.not_not.1 hp
  split at h
  · cases h
  split at h
  · cases h
  rename_i hd
  unfold HasP at hp
  omega
theorem refused_any : ∀ (f d : Nat), d + f = 33 → ∀ (A : Array Value) (v : JB) (Z : Nat → Prop) (w : World), 8 ≤ w.heap.size → Laid w → JIn w Z A v →
    Calls Tryd.prog 43 #[.agg A, .int .i64 (d : Int)] w fun e w' => e = .returned (.int .i64 (chkB v d : Int)) ∧ Below w.heap.size w w' := by
  intro f
  induction f with
  | zero =>
    intro d hd A v Z w h8 hL h
    cases h with
    | mk k b n t ns vs nq iq nc ic F hk hn hnc hic hnm him hnq hiq hN hI hR =>
      refine refused_walk k b n t ns vs nq iq nc ic F Z d (by omega) w h8 hL (.mk k b n t ns vs nq iq nc ic F hk hn hnc hic hnm him hnq hiq hN hI hR) hI hR ?_
      intro ha i x hx
      have hp : 0 < vs.length := by
        rcases Nat.lt_or_ge i vs.length with h' | h'
        · omega
        · rw [List.getElem?_eq_none h'] at hx; cases hx
      exact absurd (has_items ha hp) (by omega)
  | succ f ih =>
    intro d hd A v Z w h8 hL h
    cases h with
    | mk k b n t ns vs nq iq nc ic F hk hn hnc hic hnm him hnq hiq hN hI hR =>
      refine refused_walk k b n t ns vs nq iq nc ic F Z d (by omega) w h8 hL (.mk k b n t ns vs nq iq nc ic F hk hn hnc hic hnm him hnq hiq hN hI hR) hI hR ?_
      intro ha i x hx w' hb
      exact ih (d + 1) (by omega) (F i) x Z w' (Nat.le_trans h8 hb.size) (hL.below hb h8) ((hR i x hx).bel hb)
theorem Check_any (A : Array Value) (v : JB) (Z : Nat → Prop) (w : World) (h8 : 8 ≤ w.heap.size) (hL : Laid w) (h : JIn w Z A v) :
    Calls Tryd.prog 22 #[.agg A] w fun e w' => e = .returned (.int .i64 (chkB v 1 : Int)) ∧ Below w.heap.size w w' := by
  obtain ⟨k, b, n, t, nq, nl, nc, iq, il, ic, rfl⟩ := jin_form h
  have b1 := below_new w (.cells (jA k b n t nq nl nc iq il ic) 25)
  have n1 := _root_.Go.heap_alloc_new w (.cells (jA k b n t nq nl nc iq il ic) 25)
  have R := refused_any 32 1 (by omega) _ v Z _ (Nat.le_trans h8 b1.size) (hL.below b1 h8) (h.bel b1)
  have HB : Hid (Below w.heap.size w (w.alloc (.cells (jA k b n t nq nl nc iq il ic) 25))) := b1
  obtain ⟨⟨c0, c1, c2, c3, c4, c5⟩, f0, f1, f2, f3, f4, f5⟩ := row6_cells n1
  rw [show (((1 : Nat) : Int)) = 1 from rfl] at R
  unfold jA at R HB c0 c1 c2 c3 c4 c5 f0 f1 f2 f3 f4 f5 ⊢
  clear b1 n1 h8 hL h
  go_enter Tryd.func22, Tryd.ntmps22
  go_wp2_with (go_at_call 43; refine R.mono ?_; rintro e w1 ⟨rfl, hb1⟩)
  go_ret
  exact ⟨rfl, below_more HB.out hb1⟩
end Go.Proofs.YtcfalgomcdmdhaaDoor
