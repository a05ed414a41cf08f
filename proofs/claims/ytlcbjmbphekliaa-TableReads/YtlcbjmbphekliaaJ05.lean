/-
  Lists of texts as arguments; Make in one word; a filter made, and asked.
-/
import Derived.Test.YtlcbjmbphekliaaJ04
import Derived.Test.YtlcbjmbphekliaaJ03
import Derived.Lib.ConvBytes
import Derived.Laws.ResultCell
import Derived.Deep.RegionWith
import Derived.SliceStrings
import Derived.OwnWalk
import Derived.Laws.MakeOwn
import Derived.WalkKit
import Derived.OpenShut
import Derived.Deep.QuietTactic
import Derived.BigQuiet
namespace Go.Proofs.Ytlcbjmbphekliaa
open Go.RowKit Go.WideShapes

def betG (skip : List EntV → Bool) (keep : EntV → Bool) (ps : List (List EntV)) : List EntV := ps.flatMap fun p => if skip p = true then [] else p.filter keep
theorem betG_snoc (skip : List EntV → Bool) (keep : EntV → Bool) (ps : List (List EntV)) (p : List EntV) : betG skip keep (ps ++ [p]) = betG skip keep ps ++ (if skip p = true then [] else p.filter keep) := by simp [betG]
theorem betG_len (skip : List EntV → Bool) (keep : EntV → Bool) : ∀ (ps : List (List EntV)), (betG skip keep ps).length ≤ ps.flatten.length
  | [] => by simp [betG]
  | p :: ps => by
    have ih := betG_len skip keep ps
    have h : (if skip p = true then [] else p.filter keep).length ≤ p.length := by
      split
      · simp
      · exact List.length_filter_le _ _
    simp only [betG, List.flatMap_cons, List.length_append, List.flatten_cons] at *
    omega
theorem flat_take_len (ps : List (List EntV)) (k : Nat) : (ps.take k).flatten.length ≤ ps.flatten.length := by
  conv => rhs; rw [← List.take_append_drop k ps, List.flatten_append, List.length_append]
  omega
theorem len_mem : ∀ {ps : List (List EntV)} {p : List EntV}, p ∈ ps → p.length ≤ ps.flatten.length
  | q :: ps, p, h => by
    rw [List.flatten_cons, List.length_append]
    rcases List.mem_cons.1 h with rfl | h
    · omega
    · have := len_mem h; omega
theorem pages_take {ss : List ShV} {k : Nat} (h : k < ss.length) {p : List EntV} (hp : (ss.getD k zeroS).ents = p) : pagesOf (ss.take (k + 1)) = pagesOf (ss.take k) ++ [p] := by
  rw [takeS h, ← hp]; simp [pagesOf]
theorem pages_mem {ss : List ShV} {k : Nat} (h : k < ss.length) {p : List EntV} (hp : (ss.getD k zeroS).ents = p) : p ∈ pagesOf ss := by
  rw [← hp]
  exact List.mem_map.2 ⟨_, getD_memS h, rfl⟩
theorem filter_take {l : List EntV} {keep : EntV → Bool} {k : Nat} (h : k < l.length) {y : EntV} (hy : l.getD k zeroE = y) : (l.take (k + 1)).filter keep = (l.take k).filter keep ++ (if keep y = true then [y] else []) := by
  rw [take_snoc h hy, List.filter_append]
  congr 1
  by_cases hk : keep y = true
  · simp [hk]
  · simp [hk]
theorem bet_room {skip : List EntV → Bool} {keep : EntV → Bool} {ss : List ShV} {k j : Nat} {p : List EntV} {L M : List EntV} (hp : pagesOf (ss.take (k + 1)) = pagesOf (ss.take k) ++ [p]) (hL : betG skip keep (pagesOf (ss.take k)) = L) (hs : ¬ skip p = true) (hM : L ++ (p.take j).filter keep = M) (hl : (pagesOf ss).flatten.length ≤ 1000000) : M.length ≤ 1000000 := by
  have h1 : M.length ≤ (betG skip keep (pagesOf (ss.take (k + 1)))).length := by
    rw [hp, betG_snoc, hL, if_neg hs, ← hM]
    simp only [List.length_append]
    have := ((List.take_sublist j p).filter keep).length_le
    omega
  have h2 := betG_len skip keep (pagesOf (ss.take (k + 1)))
  have h3 : pagesOf (ss.take (k + 1)) = (pagesOf ss).take (k + 1) := by simp [pagesOf, List.map_take]
  have h4 := flat_take_len (pagesOf ss) (k + 1)
  rw [h3] at h1 h2
  omega
def skipA (f : ByteArray) (p : List EntV) : Bool := ltB (lastKy p) f
def keepA (f : ByteArray) (x : EntV) : Bool := !ltB x.key f
def skipT (f t : ByteArray) (p : List EntV) : Bool := ltB (lastKy p) f || !ltB (firstK p) t
def keepT (f t : ByteArray) (x : EntV) : Bool := !ltB x.key f && ltB x.key t
structure OnB (w : World) (v : Value) (l : List EntV) (wr : World) : Prop where
  own : EOwn wr w.heap.size v l
  bel : Below w.heap.size w wr
theorem OnB.next {w wr w' : World} {v : Value} {l : List EntV} (h : OnB w v l wr) (hb : Below wr.heap.size wr w') : OnB w v l w' := ⟨h.own.below hb, below_bt h.bel hb⟩
theorem OnB.app {w wr w' : World} {q : Option Addr} {c : Nat} {v' : Value} {l : List EntV} {k s : ByteArray} {i : Int} {g : Bool} (h : OnB w (.slice q l.length c) l wr) (hg : wr.grownBy w' (Value.slice q l.length c).ownBlock) (ho : w'.ownsRow w.heap.size 29 4 v' (l.length + 1) (cellsE l ++ [.string k, .string s, .int .i64 i, .bool g])) : OnB w v' (l ++ [⟨k, s, i, g⟩]) w' := by
  refine ⟨?_, h.bel.grown hg h.bel.size (fun k hk => (World.ownsRow.lt h.own k hk).1)⟩
  unfold EOwn
  rw [cellsE_app, List.length_append]
  exact ho
theorem ent_cells2 (w : World) (a b c d : Value) (t : TypeId) : ∀ j u, [a, b, c, d][j]? = some u → ((w.alloc (.cells #[a, b, c, d] t)).alloc (.cells #[a, b, c, d] t)).cell? ((⟨w.heap.size + 1, 0, none⟩ : Addr).add j) = some u := by
  have h := ent_cells (w.alloc (.cells #[a, b, c, d] t)) a b c d t
  rw [show (w.alloc (.cells #[a, b, c, d] t)).heap.size = w.heap.size + 1 by simp] at h
  exact h
set_option maxRecDepth 8000 in
set_option maxHeartbeats 2000000 in
theorem betweenA (q : Option Addr) (n c : Nat) (ss : List ShV) (f : ByteArray) (w : World) (h : Sheets w q n ss) (hz : n ≤ 1000000) (hl : (pagesOf ss).flatten.length ≤ 1000000) :
    Calls Try.prog 35 #[.slice q n c, .string f, .string ⟨#[]⟩] w fun e w' => ∃ v, e = .returned v ∧ EOwn w' w.heap.size v (betG (skipA f) (keepA f) (pagesOf ss)) ∧ Below w.heap.size w w' := by
  have HS : Hid (Sheets w q n ss) := h
  have HN : Hid (n = ss.length) := h.n
  have HL : Hid ((pagesOf ss).flatten.length ≤ 1000000) := hl
  have hzI : (n : Int) ≤ 1000000 := by omega
  obtain ⟨i0, hi, hz0, hz1, hz2⟩ := info_parts' info_entry
  clear h hl
  go_enter Try.func35, Try.ntmps35
  go_wp2
  go_loopw [7, 14] (fun v i wr => ∃ k : Nat, k ≤ n ∧ i = .int .i64 k ∧ OnB w v (betG (skipA f) (keepA f) (pagesOf (ss.take k))) wr) (fun _ i _ => n - (intOf i).toNat)
  case atStart => exact ⟨0, by omega, rfl, eown_nil _ _, Below.refl _ _⟩
  case round =>
    obtain ⟨k, hk, rfl, hon⟩ := hrel
    obtain ⟨vq, vc, rfl, _, _, _⟩ := hon.own.form
    obtain ⟨L, hL⟩ : ∃ L, betG (skipA f) (keepA f) (pagesOf (ss.take k)) = L := ⟨_, rfl⟩
    rw [hL] at hon ⊢
    have HO : Hid (OnB w (.slice vq L.length vc) L wr) := hon
    have HLE : Hid (betG (skipA f) (keepA f) (pagesOf (ss.take k)) = L) := hL
    clear hon hL
    by_cases hkn : k < n
    · have hkI : (k : Int) < (n : Int) := by omega
      obtain ⟨b, o, rfl, qe, ce, qb, cb, p, hs, _, _, hok0⟩ := HS.out.get hkn
      have HEN : Hid (EntsIn w qe p) := hok0.ents
      obtain ⟨b', o', hbo, qe', ce', qb', cb', p', hs', e0, e1, hok⟩ := (HS.out.below HO.out.bel).get hkn
      rw [hs] at hs'
      simp only [ShV.mk.injEq] at hs'
      obtain ⟨rfl, rfl, rfl, rfl, rfl⟩ := hs'
      simp only [Option.some.injEq, Addr.mk.injEq, and_true] at hbo
      obtain ⟨rfl, rfl⟩ := hbo
      have hpl : p.length ≤ 1000000 := Nat.le_trans (len_mem (pages_mem (k := k) (by have := HN.out; omega) (by rw [hs]))) HL.out
      have hplI : (p.length : Int) ≤ 1000000 := by omega
      have HPT : Hid (pagesOf (ss.take (k + 1)) = pagesOf (ss.take k) ++ [p]) := pages_take (by have := HN.out; omega) (by rw [hs])
      have bx := below_alloc wr (.cells #[.slice qe p.length ce, .slice qb (pageN p).length cb] 92)
      have HBX : Hid ((wr.alloc (.cells #[.slice qe p.length ce, .slice qb (pageN p).length cb] 92)).heap[wr.heap.size]? = some (.cells #[.slice qe p.length ce, .slice qb (pageN p).length cb] 92 (0, 0))) := heap_alloc_new _ _
      have HO1 : Hid (OnB w (.slice vq L.length vc) L (wr.alloc (.cells #[.slice qe p.length ce, .slice qb (pageN p).length cb] 92))) := HO.out.next bx
      obtain ⟨kl, hkl⟩ : ∃ kl, lastKy p = kl := ⟨_, rfl⟩
      have HLA := slast_any qe p.length ce qb (pageN p).length cb p _ ⟨rfl, hok.ents.below bx⟩ hok.pos hpl kl hkl
      have HKL : Hid (lastKy p = kl) := hkl
      have HKN : Hid (k < n) := hkn
      clear hok hok0 hs bx hpl hkl hkn
      cases hA : Op.bytesLess kl.toList f.toList with
      | true =>
        have HSK : Hid (betG (skipA f) (keepA f) (pagesOf (ss.take (k + 1))) = L) := by
          show _ = _
          rw [HPT.out, betG_snoc, HLE.out, if_pos (by simp [skipA, HKL.out, ltB, hA]), List.append_nil]
        go_wp2_with fail
        refine HLA.mono ?_
        rintro e w2 ⟨rfl, hb2⟩
        have HO2 : Hid (OnB w (.slice vq L.length vc) L w2) := HO1.out.next hb2
        clear hb2 HLA
        go_wp2
        go_roundw
        case rel => exact ⟨k + 1, by have := HKN.out; omega, by go_num, by rw [HSK.out]; exact HO2.out⟩
        case measure => have := HKN.out; simp [intOf]; omega
      | false =>
        have HNS : Hid (¬ (skipA f) p = true) := by show ¬ _; simp [skipA, HKL.out, ltB, hA]
        go_wp2_with fail
        refine HLA.mono ?_
        rintro e w2 ⟨rfl, hb2⟩
        obtain ⟨⟨c0, c1⟩, _, _⟩ := two2 (block_below HBX.out hb2)
        have HO2 : Hid (OnB w (.slice vq L.length vc) L w2) := HO1.out.next hb2
        clear hb2 HLA
        go_wp2
        go_loopw [7, 35] (fun v i wr => ∃ j : Nat, j ≤ p.length ∧ i = .int .i64 j ∧ OnB w v (L ++ (p.take j).filter (keepA f)) wr) (fun _ i _ => p.length - (intOf i).toNat)
        case atStart => exact ⟨0, by omega, rfl, by simp only [List.take_zero, List.filter_nil, List.append_nil]; exact HO2.out⟩
        case round =>
          obtain ⟨j, hj, rfl, hon⟩ := hrel
          obtain ⟨uq, uc, rfl, _, _, _⟩ := hon.own.form
          obtain ⟨M, hM⟩ : ∃ M, L ++ (p.take j).filter (keepA f) = M := ⟨_, rfl⟩
          rw [hM] at hon ⊢
          have HOJ : Hid (OnB w (.slice uq M.length uc) M wr) := hon
          have HME : Hid (L ++ (p.take j).filter (keepA f) = M) := hM
          clear hon hM
          by_cases hjn : j < p.length
          · have hjI : (j : Int) < (p.length : Int) := by omega
            have hen := HEN.out.below HOJ.out.bel
            obtain ⟨be, oe, rfl⟩ := hen.addr (by omega)
            obtain ⟨x0, x1, x2, x3⟩ := hen.at hjn
            obtain ⟨x, hx⟩ : ∃ x, p.getD j zeroE = x := ⟨_, rfl⟩
            rw [hx] at x0 x1 x2 x3
            have hft := filter_take (keep := (keepA f)) hjn hx
            obtain ⟨ke, ve, se, ge⟩ := x
            simp only at x0 x1 x2 x3
            have HFT : Hid ((p.take (j + 1)).filter (keepA f) = (p.take j).filter (keepA f) ++ (if (keepA f) ⟨ke, ve, se, ge⟩ = true then [⟨ke, ve, se, ge⟩] else [])) := hft
            have HJN : Hid (j < p.length) := hjn
            clear hen hx hft hjn
            cases hB : Op.bytesLess ke.toList f.toList with
            | true =>
              have HKP : Hid (L ++ (p.take (j + 1)).filter (keepA f) = M) := by
                show _ = _
                rw [HFT.out, if_neg (by simp [keepA, ltB, hB]), List.append_nil, HME.out]
              go_wp2
              go_roundw
              case rel => exact ⟨j + 1, by have := HJN.out; omega, by go_num, by rw [HKP.out]; exact HOJ.out.next (below_alloc _ _)⟩
              case measure => have := HJN.out; simp [intOf]; omega
            | false =>
              have HKP : Hid (L ++ (p.take (j + 1)).filter (keepA f) = M ++ [⟨ke, ve, se, ge⟩]) := by
                show _ = _
                rw [HFT.out, if_pos (by simp [keepA, ltB, hB]), ← List.append_assoc, HME.out]
              have HLN : Hid (M.length ≤ 1000000) := bet_room HPT.out HLE.out HNS.out HME.out HL.out
              have HOW : Hid (OnB w (.slice uq M.length uc) M ((wr.alloc (.cells #[.string ke, .string ve, .int .i64 se, .bool ge] 29)).alloc (.cells #[.string ke, .string ve, .int .i64 se, .bool ge] 29))) := (HOJ.out.next (below_alloc _ _)).next (below_alloc _ _)
              have HCL : Hid (∀ j u, [Value.string ke, .string ve, .int .i64 se, .bool ge][j]? = some u → ((wr.alloc (.cells #[.string ke, .string ve, .int .i64 se, .bool ge] 29)).alloc (.cells #[.string ke, .string ve, .int .i64 se, .bool ge] 29)).cell? ((⟨wr.heap.size + 1, 0, none⟩ : Addr).add j) = some u) := ent_cells2 wr _ _ _ _ _
              go_wp2_with (at_builtin; go_loud (refine wpList_append_own _ rfl _ _ 26 rfl w.heap.size 29 i0 _ 4 48 Try.underlying26 hi hz0 hz1 hz2 rfl (by omega) _ _ _ rfl HOW.out.own ⟨wr.heap.size + 1, 0, none⟩ 1 1 [.string ke, .string ve, .int .i64 se, .bool ge] rfl rfl HCL.out (ent_one ke ve se ge) (by have := HLN.out; unfold maxLen; omega) (by have := HLN.out; omega) HOW.out.bel.size ?_); intro va ua hoa hga _)
              have HNX : Hid (OnB w va (M ++ [⟨ke, ve, se, ge⟩]) ua) := HOW.out.app hga hoa
              clear hoa hga
              go_wp2
              go_roundw
              case rel => exact ⟨j + 1, by have := HJN.out; omega, by go_num, by rw [HKP.out]; exact HNX.out⟩
              case measure => have := HJN.out; simp [intOf]; omega
          · have hjI : (p.length : Int) ≤ (j : Int) := by omega
            have HFX : Hid (betG (skipA f) (keepA f) (pagesOf (ss.take (k + 1))) = M) := by
              show _ = _
              rw [HPT.out, betG_snoc, HLE.out, if_neg HNS.out, ← HME.out, List.take_of_length_le (by omega)]
            go_wp2
            go_roundw
            case rel => exact ⟨k + 1, by have := HKN.out; omega, by go_num, by rw [HFX.out]; exact HOJ.out⟩
            case measure => have := HKN.out; simp [intOf]; omega
    · have hkI : (n : Int) ≤ (k : Int) := by omega
      have HFX : Hid (L = betG (skipA f) (keepA f) (pagesOf ss)) := by
        show _ = _
        rw [← HLE.out, List.take_of_length_le (by have := HN.out; omega)]
      go_wp2
      go_ret
      exact ⟨_, rfl, by rw [← HFX.out]; exact HO.out.own, HO.out.bel⟩
set_option maxRecDepth 8000 in
set_option maxHeartbeats 2000000 in
theorem betweenT (q : Option Addr) (n c : Nat) (ss : List ShV) (f : ByteArray) (t : ByteArray) (ht : t ≠ ByteArray.empty) (w : World) (h : Sheets w q n ss) (hz : n ≤ 1000000) (hl : (pagesOf ss).flatten.length ≤ 1000000) :
    Calls Try.prog 35 #[.slice q n c, .string f, .string t] w fun e w' => ∃ v, e = .returned v ∧ EOwn w' w.heap.size v (betG (skipT f t) (keepT f t) (pagesOf ss)) ∧ Below w.heap.size w w' := by
  have HS : Hid (Sheets w q n ss) := h
  have HN : Hid (n = ss.length) := h.n
  have HL : Hid ((pagesOf ss).flatten.length ≤ 1000000) := hl
  have hzI : (n : Int) ≤ 1000000 := by omega
  obtain ⟨i0, hi, hz0, hz1, hz2⟩ := info_parts' info_entry
  have gt0 : t.toList.isEmpty = false := nonempty_of ht
  have gt1 : (t.toList == []) = false := by rw [← gt0]; cases t.toList <;> rfl
  have gt2 : ¬ t.toList = [] := by intro e; rw [e] at gt0; cases gt0
  clear h hl ht
  go_enter Try.func35, Try.ntmps35
  go_wp2
  go_loopw [7, 14] (fun v i wr => ∃ k : Nat, k ≤ n ∧ i = .int .i64 k ∧ OnB w v (betG (skipT f t) (keepT f t) (pagesOf (ss.take k))) wr) (fun _ i _ => n - (intOf i).toNat)
  case atStart => exact ⟨0, by omega, rfl, eown_nil _ _, Below.refl _ _⟩
  case round =>
    obtain ⟨k, hk, rfl, hon⟩ := hrel
    obtain ⟨vq, vc, rfl, _, _, _⟩ := hon.own.form
    obtain ⟨L, hL⟩ : ∃ L, betG (skipT f t) (keepT f t) (pagesOf (ss.take k)) = L := ⟨_, rfl⟩
    rw [hL] at hon ⊢
    have HO : Hid (OnB w (.slice vq L.length vc) L wr) := hon
    have HLE : Hid (betG (skipT f t) (keepT f t) (pagesOf (ss.take k)) = L) := hL
    clear hon hL
    by_cases hkn : k < n
    · have hkI : (k : Int) < (n : Int) := by omega
      obtain ⟨b, o, rfl, qe, ce, qb, cb, p, hs, _, _, hok0⟩ := HS.out.get hkn
      have HEN : Hid (EntsIn w qe p) := hok0.ents
      obtain ⟨b', o', hbo, qe', ce', qb', cb', p', hs', e0, e1, hok⟩ := (HS.out.below HO.out.bel).get hkn
      rw [hs] at hs'
      simp only [ShV.mk.injEq] at hs'
      obtain ⟨rfl, rfl, rfl, rfl, rfl⟩ := hs'
      simp only [Option.some.injEq, Addr.mk.injEq, and_true] at hbo
      obtain ⟨rfl, rfl⟩ := hbo
      have hpl : p.length ≤ 1000000 := Nat.le_trans (len_mem (pages_mem (k := k) (by have := HN.out; omega) (by rw [hs]))) HL.out
      have hplI : (p.length : Int) ≤ 1000000 := by omega
      have HPT : Hid (pagesOf (ss.take (k + 1)) = pagesOf (ss.take k) ++ [p]) := pages_take (by have := HN.out; omega) (by rw [hs])
      have bx := below_alloc wr (.cells #[.slice qe p.length ce, .slice qb (pageN p).length cb] 92)
      have HBX : Hid ((wr.alloc (.cells #[.slice qe p.length ce, .slice qb (pageN p).length cb] 92)).heap[wr.heap.size]? = some (.cells #[.slice qe p.length ce, .slice qb (pageN p).length cb] 92 (0, 0))) := heap_alloc_new _ _
      have HO1 : Hid (OnB w (.slice vq L.length vc) L (wr.alloc (.cells #[.slice qe p.length ce, .slice qb (pageN p).length cb] 92))) := HO.out.next bx
      obtain ⟨kl, hkl⟩ : ∃ kl, lastKy p = kl := ⟨_, rfl⟩
      have HLA := slast_any qe p.length ce qb (pageN p).length cb p _ ⟨rfl, hok.ents.below bx⟩ hok.pos hpl kl hkl
      obtain ⟨kf, hkf⟩ : ∃ kf, firstK p = kf := ⟨_, rfl⟩
      have HKF : Hid (firstK p = kf ∧ 0 < p.length) := ⟨hkf, hok.pos⟩
      have HFI : Hid (∀ w', Below w.heap.size w w' → Calls Try.prog 64 #[.agg #[.slice qe p.length ce, .slice qb (pageN p).length cb]] w' fun e w'' => e = .returned (.string kf) ∧ Below w'.heap.size w' w'') := fun w' hb' => sfirst_any qe p.length ce qb (pageN p).length cb p w' ⟨rfl, HEN.out.below hb'⟩ HKF.out.2 kf HKF.out.1
      have HKL : Hid (lastKy p = kl) := hkl
      have HKN : Hid (k < n) := hkn
      clear hok hok0 hs bx hpl hkl hkn hkf
      cases hA : Op.bytesLess kl.toList f.toList with
      | true =>
        have HSK : Hid (betG (skipT f t) (keepT f t) (pagesOf (ss.take (k + 1))) = L) := by
          show _ = _
          rw [HPT.out, betG_snoc, HLE.out, if_pos (by simp [skipT, HKL.out, ltB, hA]), List.append_nil]
        go_wp2_with fail
        refine HLA.mono ?_
        rintro e w2 ⟨rfl, hb2⟩
        have HO2 : Hid (OnB w (.slice vq L.length vc) L w2) := HO1.out.next hb2
        clear hb2 HLA
        go_wp2
        go_roundw
        case rel => exact ⟨k + 1, by have := HKN.out; omega, by go_num, by rw [HSK.out]; exact HO2.out⟩
        case measure => have := HKN.out; simp [intOf]; omega
      | false =>
        cases hD : Op.bytesLess kf.toList t.toList with
        | false =>
          have HSK : Hid (betG (skipT f t) (keepT f t) (pagesOf (ss.take (k + 1))) = L) := by
            show _ = _
            rw [HPT.out, betG_snoc, HLE.out, if_pos (by simp [skipT, HKL.out, HKF.out.1, ltB, hA, hD]), List.append_nil]
          go_wp2_with fail
          refine HLA.mono ?_
          rintro e w2 ⟨rfl, hb2⟩
          obtain ⟨⟨c0, c1⟩, _, _⟩ := two2 (block_below HBX.out hb2)
          have HO2 : Hid (OnB w (.slice vq L.length vc) L w2) := HO1.out.next hb2
          clear hb2 HLA
          go_wp2_with fail
          refine (HFI.out _ HO2.out.bel).mono ?_
          rintro e w3 ⟨rfl, hb3⟩
          have HO3 : Hid (OnB w (.slice vq L.length vc) L w3) := HO2.out.next hb3
          clear hb3
          go_wp2
          go_roundw
          case rel => exact ⟨k + 1, by have := HKN.out; omega, by go_num, by rw [HSK.out]; exact HO3.out⟩
          case measure => have := HKN.out; simp [intOf]; omega
        | true =>
          have HNS : Hid (¬ (skipT f t) p = true) := by show ¬ _; simp [skipT, HKL.out, HKF.out.1, ltB, hA, hD]
          go_wp2_with fail
          refine HLA.mono ?_
          rintro e w2 ⟨rfl, hb2⟩
          obtain ⟨⟨c0, c1⟩, _, _⟩ := two2 (block_below HBX.out hb2)
          have HO2 : Hid (OnB w (.slice vq L.length vc) L w2) := HO1.out.next hb2
          have HBX2 : Hid (w2.heap[wr.heap.size]? = some (.cells #[.slice qe p.length ce, .slice qb (pageN p).length cb] 92 (0, 0))) := block_below HBX.out hb2
          clear hb2 HLA
          go_wp2_with fail
          refine (HFI.out _ HO2.out.bel).mono ?_
          rintro e w3 ⟨rfl, hb3⟩
          have HO3 : Hid (OnB w (.slice vq L.length vc) L w3) := HO2.out.next hb3
          clear c0 c1
          obtain ⟨⟨c0, c1⟩, _, _⟩ := two2 (block_below HBX2.out hb3)
          clear hb3
          go_wp2
          go_loopw [7, 35] (fun v i wr => ∃ j : Nat, j ≤ p.length ∧ i = .int .i64 j ∧ OnB w v (L ++ (p.take j).filter (keepT f t)) wr) (fun _ i _ => p.length - (intOf i).toNat)
          case atStart => exact ⟨0, by omega, rfl, by simp only [List.take_zero, List.filter_nil, List.append_nil]; exact HO3.out⟩
          case round =>
            obtain ⟨j, hj, rfl, hon⟩ := hrel
            obtain ⟨uq, uc, rfl, _, _, _⟩ := hon.own.form
            obtain ⟨M, hM⟩ : ∃ M, L ++ (p.take j).filter (keepT f t) = M := ⟨_, rfl⟩
            rw [hM] at hon ⊢
            have HOJ : Hid (OnB w (.slice uq M.length uc) M wr) := hon
            have HME : Hid (L ++ (p.take j).filter (keepT f t) = M) := hM
            clear hon hM
            by_cases hjn : j < p.length
            · have hjI : (j : Int) < (p.length : Int) := by omega
              have hen := HEN.out.below HOJ.out.bel
              obtain ⟨be, oe, rfl⟩ := hen.addr (by omega)
              obtain ⟨x0, x1, x2, x3⟩ := hen.at hjn
              obtain ⟨x, hx⟩ : ∃ x, p.getD j zeroE = x := ⟨_, rfl⟩
              rw [hx] at x0 x1 x2 x3
              have hft := filter_take (keep := (keepT f t)) hjn hx
              obtain ⟨ke, ve, se, ge⟩ := x
              simp only at x0 x1 x2 x3
              have HFT : Hid ((p.take (j + 1)).filter (keepT f t) = (p.take j).filter (keepT f t) ++ (if (keepT f t) ⟨ke, ve, se, ge⟩ = true then [⟨ke, ve, se, ge⟩] else [])) := hft
              have HJN : Hid (j < p.length) := hjn
              clear hen hx hft hjn
              cases hB : Op.bytesLess ke.toList f.toList with
              | true =>
                have HKP : Hid (L ++ (p.take (j + 1)).filter (keepT f t) = M) := by
                  show _ = _
                  rw [HFT.out, if_neg (by simp [keepT, ltB, hB]), List.append_nil, HME.out]
                go_wp2
                go_roundw
                case rel => exact ⟨j + 1, by have := HJN.out; omega, by go_num, by rw [HKP.out]; exact HOJ.out.next (below_alloc _ _)⟩
                case measure => have := HJN.out; simp [intOf]; omega
              | false =>
                cases hC : Op.bytesLess ke.toList t.toList with
                | false =>
                  have HKP : Hid (L ++ (p.take (j + 1)).filter (keepT f t) = M) := by
                    show _ = _
                    rw [HFT.out, if_neg (by simp [keepT, ltB, hB, hC]), List.append_nil, HME.out]
                  go_wp2
                  go_roundw
                  case rel => exact ⟨j + 1, by have := HJN.out; omega, by go_num, by rw [HKP.out]; exact HOJ.out.next (below_alloc _ _)⟩
                  case measure => have := HJN.out; simp [intOf]; omega
                | true =>
                  have HKP : Hid (L ++ (p.take (j + 1)).filter (keepT f t) = M ++ [⟨ke, ve, se, ge⟩]) := by
                    show _ = _
                    rw [HFT.out, if_pos (by simp [keepT, ltB, hB, hC]), ← List.append_assoc, HME.out]
                  have HLN : Hid (M.length ≤ 1000000) := bet_room HPT.out HLE.out HNS.out HME.out HL.out
                  have HOW : Hid (OnB w (.slice uq M.length uc) M ((wr.alloc (.cells #[.string ke, .string ve, .int .i64 se, .bool ge] 29)).alloc (.cells #[.string ke, .string ve, .int .i64 se, .bool ge] 29))) := (HOJ.out.next (below_alloc _ _)).next (below_alloc _ _)
                  have HCL : Hid (∀ j u, [Value.string ke, .string ve, .int .i64 se, .bool ge][j]? = some u → ((wr.alloc (.cells #[.string ke, .string ve, .int .i64 se, .bool ge] 29)).alloc (.cells #[.string ke, .string ve, .int .i64 se, .bool ge] 29)).cell? ((⟨wr.heap.size + 1, 0, none⟩ : Addr).add j) = some u) := ent_cells2 wr _ _ _ _ _
                  go_wp2_with (at_builtin; go_loud (refine wpList_append_own _ rfl _ _ 26 rfl w.heap.size 29 i0 _ 4 48 Try.underlying26 hi hz0 hz1 hz2 rfl (by omega) _ _ _ rfl HOW.out.own ⟨wr.heap.size + 1, 0, none⟩ 1 1 [.string ke, .string ve, .int .i64 se, .bool ge] rfl rfl HCL.out (ent_one ke ve se ge) (by have := HLN.out; unfold maxLen; omega) (by have := HLN.out; omega) HOW.out.bel.size ?_); intro va ua hoa hga _)
                  have HNX : Hid (OnB w va (M ++ [⟨ke, ve, se, ge⟩]) ua) := HOW.out.app hga hoa
                  clear hoa hga
                  go_wp2
                  go_roundw
                  case rel => exact ⟨j + 1, by have := HJN.out; omega, by go_num, by rw [HKP.out]; exact HNX.out⟩
                  case measure => have := HJN.out; simp [intOf]; omega
            · have hjI : (p.length : Int) ≤ (j : Int) := by omega
              have HFX : Hid (betG (skipT f t) (keepT f t) (pagesOf (ss.take (k + 1))) = M) := by
                show _ = _
                rw [HPT.out, betG_snoc, HLE.out, if_neg HNS.out, ← HME.out, List.take_of_length_le (by omega)]
              go_wp2
              go_roundw
              case rel => exact ⟨k + 1, by have := HKN.out; omega, by go_num, by rw [HFX.out]; exact HOJ.out⟩
              case measure => have := HKN.out; simp [intOf]; omega
    · have hkI : (n : Int) ≤ (k : Int) := by omega
      have HFX : Hid (L = betG (skipT f t) (keepT f t) (pagesOf ss)) := by
        show _ = _
        rw [← HLE.out, List.take_of_length_le (by have := HN.out; omega)]
      go_wp2
      go_ret
      exact ⟨_, rfl, by rw [← HFX.out]; exact HO.out.own, HO.out.bel⟩
end Go.Proofs.Ytlcbjmbphekliaa
namespace Go.Proofs.Ytlcbjmbphekliaa.Sv
open Go.RowKit Go.WideShapes

theorem below_alloc (w : World) (o : Obj) : Below w.heap.size w (w.alloc o) := (Below.refl _ _).alloc (Nat.le_refl _) o
theorem below_bt {a b c : World} (h1 : Below a.heap.size a b) (h2 : Below b.heap.size b c) : Below a.heap.size a c := h1.trans (h2.mono h1.size)
theorem lt_heap {w : World} {b : Nat} {o : Obj} (h : w.heap[b]? = some o) : b < w.heap.size := (Array.getElem?_eq_some_iff.1 h).1

/-- The row of a conversion: of text s, at the block g. -/
structure CRow (w : World) (g n cap : Nat) (xs : List Nat) : Prop where
  row : ∃ cur : Array Value, w.heap[g]? = some (.cells cur 5 (cap, cap + 1)) ∧ cur.size = cap ∧ cur.toList.take n = Bs xs
  len : n = xs.length
  le : n ≤ cap
  lt : ∀ c ∈ xs, c < 256
theorem CRow.bin {w : World} {g n cap : Nat} {xs : List Nat} (h : CRow w g n cap xs) : BIn w (some ⟨g, 0, none⟩) xs := by
  obtain ⟨cur, hg, hs, ht⟩ := h.row
  refine ⟨fun _ => ⟨g, 0, rfl, fun i hi => ?_⟩, h.lt⟩
  rw [Nat.zero_add, cell_of_row w g i cur 5 _ hg]
  have e : (cur.toList.take n)[i]? = (Bs xs)[i]? := by rw [ht]
  rw [List.getElem?_take_of_lt (by rw [h.len]; exact hi)] at e
  simp only [Array.getElem?_toList] at e
  rw [e]
  simp [Bs, List.getD, List.getElem?_eq_getElem hi]
theorem CRow.same {w w' : World} {g n cap : Nat} {xs : List Nat} (h : CRow w g n cap xs) (e : w'.heap[g]? = w.heap[g]?) : CRow w' g n cap xs := by
  obtain ⟨cur, hg, hs, ht⟩ := h.row
  exact ⟨⟨cur, e.trans hg, hs, ht⟩, h.len, h.le, h.lt⟩
theorem CRow.below {w w' : World} {g n cap : Nat} {xs : List Nat} (h : CRow w g n cap xs) (hb : Below w.heap.size w w') : CRow w' g n cap xs := by
  obtain ⟨cur, hg, hs, ht⟩ := h.row
  exact h.same (hb.block g (lt_heap hg))
theorem conv_row (s : ByteArray) (w : World) : ∃ W cap, (convert 9 22 (.string s)).run Try.prog w = .ok (.slice (some ⟨w.heap.size, 0, none⟩) s.size cap) W ∧ Below w.heap.size w W ∧ CRow W w.heap.size s.size cap (numsOf s) := by
  refine ⟨_, _, Lib.run_convert_string_bytes w 9 22 5 s Try.underlying9 Try.underlying22 Try.underlying5, ⟨rfl, rfl, rfl, ?_, fun k hk => Lib.bytesWorld_at_old w 5 s k hk⟩, ⟨⟨Lib.bytesCells w 5 s, ?_, ?_, ?_⟩, (numsOf_len s).symm, grownCap_ge w s.size 0 5, numsOf_lt s⟩⟩
  · rw [Lib.bytesWorld_size]; omega
  · have hge := grownCap_ge w s.size 0 5
    have hsz : (Lib.bytesCells w 5 s).size = grownCap w s.size 0 5 := by
      unfold Lib.bytesCells; simp only [Array.size_append, Array.size_map, Array.size_replicate]
      have : s.data.size = s.size := rfl
      omega
    have := Lib.bytesWorld_at_new w 5 s
    rw [hsz] at this
    exact this
  · have hge := grownCap_ge w s.size 0 5
    unfold Lib.bytesCells; simp only [Array.size_append, Array.size_map, Array.size_replicate]
    have : s.data.size = s.size := rfl
    omega
  · unfold Lib.bytesCells Bs numsOf
    rw [Array.toList_append, List.take_left' (by simp)]
    simp
theorem run_append_conv (w : World) (g n cap : Nat) (xs : List Nat) (ab ao : Nat) (c ty : Nat) (h : CRow w g n cap xs) (ha : w.cell? ⟨ab, ao, none⟩ = some (.int .u8 1)) (hn : n ≤ 1000) :
    ∃ q c' w', (Builtin.append_ #[22, 22] ty #[.slice (some ⟨g, 0, none⟩) n cap, .slice (some ⟨ab, ao, none⟩) 1 c]).run Try.prog w = .ok (.slice q (n + 1) c') w' ∧ BIn w' q (xs ++ [1]) ∧ w.grownBy w' (some g) := by
  obtain ⟨i0, hi, hz0, hz1, hz2⟩ := info_parts info5
  obtain ⟨cur, hg, hs, ht⟩ := h.row
  have hx := h.len
  have hle := h.le
  have hlt : ∀ c ∈ xs ++ [1], c < 256 := by
    intro c hc
    rcases List.mem_append.1 hc with h1 | h1
    · exact h.lt c h1
    · simp at h1; omega
  have hcells : ∀ j u, (Bs xs)[j]? = some u → w.cell? ((⟨g, 0, none⟩ : Addr).add j) = some u := bin_cells h.bin
  have hnews : ∀ j u, ([Value.int .u8 1] : List Value)[j]? = some u → w.cell? ((⟨ab, ao, none⟩ : Addr).add j) = some u := by
    intro j u hu
    cases j with
    | zero =>
      simp at hu
      subst hu
      rw [add_plain, Nat.add_zero]; exact ha
    | succ j => simp at hu
  by_cases hroom : n + 1 ≤ cap
  · have hf := run_firstCells_some (P := Try.prog) w i0.size 1 ⟨ab, ao, none⟩ 1 c [.int .u8 1] (by rw [hz1]; rfl) hnews
    have hcell : w.cell? ⟨g, n, none⟩ = some (cur[n]'(by omega)) := by simp [World.cell?, hg, show n < cur.size from by omega]
    have hfro : w.frozen? ⟨g, n, none⟩ = false := by
      simp only [World.frozen?, hg, Bool.and_eq_false_iff, decide_eq_false_iff_not]
      left; omega
    have hst : (storeCells ⟨g, n, none⟩ [.int .u8 1] 0).run Try.prog w = .ok () (w.setCell ⟨g, n, none⟩ (.int .u8 1)) := by
      simp only [storeCells, Sem.run_bind]
      rw [add_plain, Nat.add_zero, run_store Try.prog w _ _ _ rfl, hcell]
      simp [hfro]
    refine ⟨some ⟨g, 0, none⟩, cap, w.setCell ⟨g, n, none⟩ (.int .u8 1), ?_, ⟨fun _ => ⟨g, 0, rfl, fun i hi => ?_⟩, hlt⟩, ?_⟩
    · simp [Builtin.append_, run_underlying Try.underlying22, sizeOf, typeInfo, hi, hz1, Builtin.lenOf, hroom, Addr.add_lit]
      rw [hz1] at hf
      simp [hf, hst]
    · have hi' : i < n + 1 := by simp at hi; omega
      rw [Nat.zero_add]
      by_cases e : i = n
      · subst e
        rw [World.cell?_setCell_same _ _ _ hcell]
        simp [List.getD, hx]
      · rw [World.cell?_setCell_other _ _ _ _ (by intro hh; simp only [Addr.mk.injEq] at hh; omega)]
        have h1 := h.bin.cell i (by omega)
        rw [Nat.zero_add] at h1
        rw [h1, List.getD_eq_getElem?_getD, List.getD_eq_getElem?_getD, List.getElem?_append_left (by omega)]
    · exact ⟨rfl, rfl, rfl, by simp, fun k hk hne => by
        rw [setCell_eq_setRow w g n cur 5 _ _ hg]
        exact setRow_other w g k _ (fun e => hne (by rw [e]))⟩
  · have hr := run_append_grow (P := Try.prog) w 22 ty 5 i0 (.int .u8 0) Try.underlying22 hi hz0 ⟨g, 0, none⟩ n cap (Bs xs) (by rw [hz1, Bs_len]; omega) hcells ⟨ab, ao, none⟩ 1 c [.int .u8 1] (by rw [hz1]; rfl) hnews (by omega) (by omega) (growslice_fits (by omega) (by rw [hz2]; omega))
    refine ⟨_, _, _, hr, ⟨fun _ => ⟨w.heap.size, 0, rfl, fun i hi => ?_⟩, hlt⟩, ⟨rfl, rfl, rfl, by simp, fun k hk _ => heap_alloc_old w.drew _ hk⟩⟩
    have hh := heap_alloc_new w.drew (.cells ((Bs xs).toArray ++ ([Value.int .u8 1] : List Value).toArray ++ Builtin.zeroCells (Value.int .u8 0).cells (grownCap w (n + 1) cap 5 - (n + 1))) 5)
    have hi' : i < n + 1 := by simp at hi; omega
    have hw : w.drew.heap.size = w.heap.size := rfl
    rw [hw] at hh
    rw [Nat.zero_add, Lib.cell_of_heap hh]
    have hbl := Bs_len xs
    have e1 : ((Bs xs).toArray ++ ([Value.int .u8 1] : List Value).toArray) = (Bs (xs ++ [1])).toArray := by rw [Bs_app]; simp [Bs]
    rw [e1, Array.getElem?_append_left (by simp [Bs]; omega)]
    clear e1 hlt
    generalize xs ++ [1] = ys at hi ⊢
    simp [Bs, List.getD, List.getElem?_eq_getElem hi]
theorem wpList_append_conv (w : World) {ops : Array Oper} {rest : List Oper} {o : Oper} {a : Act} {Q : Exit → Act → World → Prop} (hgd : o.guard = none) (s x : Operand)
    (ho : o.op = .call { callee := .builtin .append, args := #[s, x], argTypes := #[22, 22] }) (g n cap : Nat) (xs : List Nat) (ab ao : Nat) (c : Nat) (hs : a.eval s = .slice (some ⟨g, 0, none⟩) n cap) (hx : a.eval x = .slice (some ⟨ab, ao, none⟩) 1 c)
    (hr : CRow w g n cap xs) (ha : w.cell? ⟨ab, ao, none⟩ = some (.int .u8 1)) (hn : n ≤ 1000)
    (h : ∀ q c' w', BIn w' q (xs ++ [1]) → w.grownBy w' (some g) → wpList Try.prog ops Q rest (a.put o.dst (.slice q (n + 1) c')) w') : wpList Try.prog ops Q (o :: rest) a w := by
  refine wpList_plain hgd fun K hK => ?_
  obtain ⟨q, c', w', hrun, h2, h3⟩ := run_append_conv w g n cap xs ab ao c o.type hr ha hn
  unfold Oper.wp execOp
  simp only [ho, resolve, invoke, builtin, Sem.run_bind, Sem.run_pure, Result.andThen_ok, List.map_toArray, List.map_cons, List.map_nil, hs, hx, hrun]
  exact hK _ _ (h q c' w' h2 h3)
end Go.Proofs.Ytlcbjmbphekliaa.Sv
namespace Go.Proofs.Ytlcbjmbphekliaa.Sv
open Go.RowKit Go.WideShapes

def arr4 (a b c d : Nat) : Value := .agg #[.int .i64 a, .int .i64 b, .int .i64 c, .int .i64 d]
set_option maxRecDepth 8000 in
set_option maxHeartbeats 1000000 in
theorem marks_any (s : ByteArray) (m : Nat) (w : World) (hs : (s.size : Int) ≤ 256) (h0 : (0 : Int) < m) (hm : (m : Int) ≤ 65536) :
    Calls Try.prog 88 #[.string s, .int .i64 m] w fun e w' => e = .returned (.agg #[.int .i64 (markAt s 0 % m : Nat), .int .i64 (markAt s 1 % m : Nat), .int .i64 (markAt s 2 % m : Nat), .int .i64 (markAt s 3 % m : Nat)]) ∧ Below w.heap.size w w' := by
  obtain ⟨W, cap, hcv, hB, hR⟩ := conv_row s (w.alloc (.cells #[.int .i64 0, .int .i64 0, .int .i64 0, .int .i64 0] 125))
  have HB : Hid (Below (w.alloc (.cells #[.int .i64 0, .int .i64 0, .int .i64 0, .int .i64 0] 125)).heap.size (w.alloc (.cells #[.int .i64 0, .int .i64 0, .int .i64 0, .int .i64 0] 125)) W) := hB
  have HR : Hid (CRow W (w.heap.size + 1) s.size cap (numsOf s)) := by rw [show (w.alloc (.cells #[.int .i64 0, .int .i64 0, .int .i64 0, .int .i64 0] 125)).heap.size = w.heap.size + 1 from by simp] at hR; exact hR
  have HS : Hid ((s.size : Int) ≤ 256) := hs
  clear hB hR hs
  obtain ⟨a0, e0⟩ : ∃ a, markAt s 0 = a := ⟨_, rfl⟩
  obtain ⟨a1, e1⟩ : ∃ a, markAt s 1 = a := ⟨_, rfl⟩
  obtain ⟨a2, e2⟩ : ∃ a, markAt s 2 = a := ⟨_, rfl⟩
  obtain ⟨a3, e3⟩ : ∃ a, markAt s 3 = a := ⟨_, rfl⟩
  obtain ⟨gg, eg⟩ : ∃ a, sieveG s = a := ⟨_, rfl⟩
  obtain ⟨g1, eg1⟩ : ∃ a, sumN (numsOf s ++ [1]) = a := ⟨_, rfl⟩
  have l0 : a0 < 4294967296 := by rw [← e0]; exact markAt_lt s 0
  have l1 : a1 < 4294967296 := by rw [← e1]; exact markAt_lt s 1
  have l2 : a2 < 4294967296 := by rw [← e2]; exact markAt_lt s 2
  have l3 : a3 < 4294967296 := by rw [← e3]; exact markAt_lt s 3
  have lg : gg < 4294967296 := by rw [← eg]; exact sieveG_lt s
  have hor : bits BinOp.or IntKind.u32 (g1 : Int) 1 = (gg : Int) := by
    have lt1 : g1 < 4294967296 := by rw [← eg1]; exact sumN_lt _ (one_lt s)
    rw [show (1 : Int) = ((1 : Nat) : Int) from rfl, u32_or_nat g1 1 lt1 (by decide), ← eg, ← eg1]; rfl
  have n1 : ((a0 : Int) + (gg : Int)) % 4294967296 = (a1 : Int) := by
    have e : a1 = (a0 + gg) % 4294967296 := by rw [← e1, ← e0, ← eg]; exact markAt_succ s 0
    omega
  have n2 : ((a1 : Int) + (gg : Int)) % 4294967296 = (a2 : Int) := by
    have e : a2 = (a1 + gg) % 4294967296 := by rw [← e2, ← e1, ← eg]; exact markAt_succ s 1
    omega
  have n3 : ((a2 : Int) + (gg : Int)) % 4294967296 = (a3 : Int) := by
    have e : a3 = (a2 + gg) % 4294967296 := by rw [← e3, ← e2, ← eg]; exact markAt_succ s 2
    omega
  have HZ : Hid ((sumN (numsOf s) : Int) = (a0 : Int)) := by show _ = _; rw [← e0, markAt_zero]; rfl
  have HZ1 : Hid ((sumN (numsOf s ++ [1]) : Int) = (g1 : Int)) := by show _ = _; rw [eg1]
  have wr : ∀ a : Nat, wrap64 ((a : Int) % (m : Int)) = ((a % m : Nat) : Int) := by
    intro a
    have := Nat.mod_lt a (show m > 0 by omega)
    rw [← Int.natCast_emod]; unfold wrap64; omega
  have HW : Hid (∀ a : Nat, wrap64 ((a : Int) % (m : Int)) = ((a % m : Nat) : Int)) := wr
  clear wr
  have hw0 : (m : Int) % 4294967296 = (m : Int) := by omega
  rw [e0, e1, e2, e3]
  clear e0 e1 e2 e3 eg eg1
  go_enter Try.func88, Try.ntmps88
  go_wp2_with fail
  refine (sum_at (some ⟨w.heap.size + 1, 0, none⟩) s.size cap (numsOf s) _ (a0 : Int) (numsOf_len s).symm HZ.out HR.out.bin (by have := HS.out; have := numsOf_len s; unfold maxLen; omega)).mono ?_
  rintro e w1 ⟨rfl, rfl⟩
  have HA : Hid (CRow (w1.alloc (.cells #[.int .u8 1] 5)) (w.heap.size + 1) s.size cap (numsOf s) ∧ w.heap.size + 1 < w1.heap.size) := ⟨HR.out.below (below_alloc _ _), by obtain ⟨cur, hg, _⟩ := HR.out.row; exact lt_heap hg⟩
  clear hcv
  go_wp2_with (at_builtin; refine wpList_append_conv _ rfl _ _ rfl (w.heap.size + 1) s.size cap (numsOf s) w1.heap.size 0 1 rfl rfl HA.out.1 (cell_one_new _ _ _ 0 _ rfl) (by have := HS.out; omega) ?_)
  intro q c' w2 hb2 hg2
  have HB2 : Hid (BIn w2 q (numsOf s ++ [1])) := hb2
  have hblk : w2.heap[w.heap.size]? = some (.cells #[.int .i64 0, .int .i64 0, .int .i64 0, .int .i64 0] 125) := by
    have h1 := HA.out.2
    rw [hg2.block w.heap.size (by simp; omega) (by simp), heap_alloc_old w1 _ (by omega), HB.out.block w.heap.size (by simp)]
    exact heap_alloc_new w _
  have HBL : Hid (Below w.heap.size w w2) := by
    have h1 := HA.out.2
    have hb1 : Below w.heap.size w w1 := below_bt (below_alloc w _) HB.out
    refine ⟨hg2.os.trans hb1.os, hg2.tape.trans hb1.tape, hg2.output.trans hb1.output, by have := hg2.size; simp at this; omega, fun k hk => ?_⟩
    rw [hg2.block k (by simp; omega) (by simp; omega), heap_alloc_old w1 _ (by omega)]
    exact hb1.block k hk
  have hsz : w.heap.size < w2.heap.size := lt_heap hblk
  have c0 : w2.cell? ⟨w.heap.size, 0, none⟩ = some (.int .i64 0) := by simp [World.cell?, hblk]
  have c1 : w2.cell? ⟨w.heap.size, 1, none⟩ = some (.int .i64 0) := by simp [World.cell?, hblk]
  have c2 : w2.cell? ⟨w.heap.size, 2, none⟩ = some (.int .i64 0) := by simp [World.cell?, hblk]
  have c3 : w2.cell? ⟨w.heap.size, 3, none⟩ = some (.int .i64 0) := by simp [World.cell?, hblk]
  have f0 : w2.frozen? ⟨w.heap.size, 0, none⟩ = false := by simp [World.frozen?, hblk]
  have f1 : w2.frozen? ⟨w.heap.size, 1, none⟩ = false := by simp [World.frozen?, hblk]
  have f2 : w2.frozen? ⟨w.heap.size, 2, none⟩ = false := by simp [World.frozen?, hblk]
  have f3 : w2.frozen? ⟨w.heap.size, 3, none⟩ = false := by simp [World.frozen?, hblk]
  clear hb2 hg2 hblk HA HR HB
  go_wp2_with fail
  refine (sum_at q (s.size + 1) c' (numsOf s ++ [1]) _ (g1 : Int) (by rw [List.length_append, numsOf_len]; rfl) HZ1.out HB2.out (by have := HS.out; have := numsOf_len s; simp; unfold maxLen; omega)).mono ?_
  rintro e w3 ⟨rfl, rfl⟩
  clear HB2 HZ HZ1
  go_wp2
  refine wp_loop_rounds 5 ?_
  iterate 5 (rw [rounds_succ]; go_wp2)
  refine bodyPost_ret (v := .agg #[.int .i64 (wrap64 ((a0 : Int) % (m : Int))), .int .i64 (wrap64 ((a1 : Int) % (m : Int))), .int .i64 (wrap64 ((a2 : Int) % (m : Int))), .int .i64 (wrap64 ((a3 : Int) % (m : Int)))]) (by simp [results, Try.results88, go_sem, c0, c1, c2, c3, hsz]) rfl ⟨by rw [HW.out, HW.out, HW.out, HW.out], ?_⟩
  exact ((((HBL.out.setCell (Nat.le_refl _) _).setCell (Nat.le_refl _) _).setCell (Nat.le_refl _) _).setCell (Nat.le_refl _) _).alloc (by simp; omega) _
end Go.Proofs.Ytlcbjmbphekliaa.Sv
namespace Go.Proofs.Ytlcbjmbphekliaa.Sv
open Go.RowKit Go.WideShapes

theorem tooLong_any (s : ByteArray) (w : World) : Calls Try.prog 87 #[.string s] w fun e w' => e = .returned (.bool (decide ((256 : Int) < (s.size : Int)))) ∧ w' = w := by
  go_enter Try.func87, Try.ntmps87
  go_wp2
  go_ret
  exact ⟨rfl, rfl⟩
theorem mask_any (n : Nat) (w : World) (hn : (n : Int) ≤ 65536) : Calls Try.prog 99 #[.int .i64 n] w fun e w' => e = .returned (.int .u8 (2 ^ (n % 8) : Nat)) ∧ w' = w := by
  obtain ⟨r, hr⟩ : ∃ r, n % 8 = r := ⟨_, rfl⟩
  have hI : (n : Int) % 8 = (r : Int) := by omega
  rw [hr]
  have hr8 : r < 8 := by omega
  clear hr
  go_enter Try.func99, Try.ntmps99
  match r, hr8 with
  | 0, _ => go_wp2; go_ret; exact ⟨rfl, rfl⟩
  | 1, _ => go_wp2; go_ret; exact ⟨rfl, rfl⟩
  | 2, _ => go_wp2; go_ret; exact ⟨rfl, rfl⟩
  | 3, _ => go_wp2; go_ret; exact ⟨rfl, rfl⟩
  | 4, _ => go_wp2; go_ret; exact ⟨rfl, rfl⟩
  | 5, _ => go_wp2; go_ret; exact ⟨rfl, rfl⟩
  | 6, _ => go_wp2; go_ret; exact ⟨rfl, rfl⟩
  | 7, _ => go_wp2; go_ret; exact ⟨rfl, rfl⟩
theorem or_u8 (c r : Nat) (hc : c < 256) (hr : r < 256) : bits BinOp.or IntKind.u8 (c : Int) (r : Int) = ((c ||| r : Nat) : Int) := u8_or_nat c r hc hr
theorem less_u8 : ∀ r : Nat, r < 8 → ∀ c : Nat, c < 256 → (bits BinOp.andNot IntKind.u8 ((2 ^ r : Nat) : Int) (c : Int) == 0) = c.testBit r := by decide +kernel
theorem pow_lt (n : Nat) : 2 ^ (n % 8) < 256 := by
  have : 2 ^ (n % 8) < 2 ^ 8 := Nat.pow_lt_pow_right (by decide) (Nat.mod_lt _ (by decide))
  omega
theorem lacks_any (p : Option Addr) (L cap n : Nat) (xs : List Nat) (w : World) (hL : L = xs.length) (hb : BIn w p xs) (hn : n / 8 < xs.length) (hm : (n : Int) ≤ 65536) (r : Bool) (hr : (xs.getD (n / 8) 0).testBit (n % 8) = !r) :
    Calls Try.prog 89 #[.slice p L cap, .int .i64 n] w fun e w' => e = .returned (.bool r) ∧ w' = w := by
  obtain ⟨b, o, rfl, hc⟩ := hb.1 (by omega)
  have hck := hc (n / 8) hn
  have hlt := getD_lt hb.2 (n / 8)
  have hln := less_u8 (n % 8) (Nat.mod_lt _ (by decide)) _ hlt
  rw [hr] at hln
  have hpl := pow_lt n
  have HM : Hid (2 ^ (n % 8) = 2 ^ (n % 8)) := rfl
  obtain ⟨mk, hmk⟩ : ∃ mk, 2 ^ (n % 8) = mk := ⟨_, rfl⟩
  have HK : Hid (2 ^ (n % 8) = mk) := hmk
  rw [hmk] at hln hpl
  obtain ⟨c, hcc⟩ : ∃ c, xs.getD (n / 8) 0 = c := ⟨_, rfl⟩
  rw [hcc] at hck hlt hln
  obtain ⟨j, hj⟩ : ∃ j, n / 8 = j := ⟨_, rfl⟩
  rw [hj] at hck
  have hI : (n : Int) / 8 = (j : Int) := by omega
  have hjL : j < L := by omega
  have g : ∀ v : Int, (v == 0) = (!r) → (v != 0) = r := by intro v h; cases r <;> simp_all
  have hg := g _ hln
  clear hc hcc hmk hj hr hln g hn hL hb
  go_enter Try.func89, Try.ntmps89
  go_wp2_with fail
  refine (mask_any n _ hm).mono ?_
  rintro e w1 ⟨rfl, rfl⟩
  rw [HK.out]
  go_wp2
  go_ret
  exact ⟨rfl, rfl⟩
theorem getD_set_bs (xs : List Nat) (j v : Nat) : (Bs xs).set j (.int .u8 (v : Int)) = Bs (xs.set j v) := by
  unfold Bs; rw [List.map_set]
theorem set_any (g L cap n : Nat) (xs : List Nat) (w : World) (hL : L = xs.length) (hb : w.heap[g]? = some (.cells (Bs xs).toArray 5 (0, 0))) (hx : ∀ c ∈ xs, c < 256) (hn : n / 8 < xs.length) (hm : (n : Int) ≤ 65536) :
    Calls Try.prog 95 #[.slice (some ⟨g, 0, none⟩) L cap, .int .i64 n] w fun e w' => e = .returned (.tuple #[]) ∧ w'.heap[g]? = some (.cells (Bs (setN xs n)).toArray 5 (0, 0)) ∧ w.grownBy w' (some g) := by
  have hck : w.cell? ⟨g, n / 8, none⟩ = some (.int .u8 (xs.getD (n / 8) 0 : Nat)) := by
    rw [cell_of_row w g (n / 8) _ 5 _ hb]
    simp [Bs, List.getD, List.getElem?_eq_getElem hn]
  have hfz : w.frozen? ⟨g, n / 8, none⟩ = false := by simp [World.frozen?, hb]
  have hlt := getD_lt hx (n / 8)
  have hpl := pow_lt n
  have hor := or_u8 _ _ hlt hpl
  obtain ⟨mk, hmk⟩ : ∃ mk, 2 ^ (n % 8) = mk := ⟨_, rfl⟩
  have HK : Hid (2 ^ (n % 8) = mk) := hmk
  rw [hmk] at hor hpl
  obtain ⟨c, hcc⟩ : ∃ c, xs.getD (n / 8) 0 = c := ⟨_, rfl⟩
  rw [hcc] at hck hlt hor
  obtain ⟨j, hj⟩ : ∃ j, n / 8 = j := ⟨_, rfl⟩
  rw [hj] at hck hfz
  have HS : Hid (setN xs n = xs.set j (c ||| mk)) := by show _ = _; unfold setN; rw [hj, ← hj, hcc, hmk, hj]
  have HG : Hid (w.heap[g]? = some (.cells (Bs xs).toArray 5 (0, 0))) := hb
  have hI : (n : Int) / 8 = (j : Int) := by omega
  have hjI : (j : Int) < (L : Int) := by omega
  have hj0 : (0 : Int) ≤ (j : Int) := by omega
  have hjw : IntKind.i64.wrap (j : Int) = (j : Int) := by rw [IntKind.wrap_i64]; omega
  clear hcc hmk hj hn hL hb hx
  go_enter Try.func95, Try.ntmps95
  go_region_with (go_at_call 99; refine (mask_any n _ hm).mono ?_; rintro e w1 ⟨rfl, rfl⟩; rw [HK.out])
  all_goals
    refine bodyPost_end (v := .tuple #[]) (by simp [results, Try.results95, go_sem]) rfl ⟨rfl, ?_, ?_⟩
    · rw [HS.out, ← getD_set_bs]
      rw [setCell_eq_setRow w g j _ 5 _ _ HG.out]
      have e := setRow_heap w g _ ((Bs xs).toArray.setIfInBounds j (.int .u8 ((c ||| mk : Nat) : Int))) 5 (0, 0) HG.out
      rw [show ((Bs xs).set j (.int .u8 ((c ||| mk : Nat) : Int))).toArray = (Bs xs).toArray.setIfInBounds j (.int .u8 ((c ||| mk : Nat) : Int)) from by simp]
      exact e
    · exact ⟨rfl, rfl, rfl, by simp, fun k hk hne => by
        rw [setCell_eq_setRow w g j _ 5 _ _ HG.out]
        exact setRow_other w g k _ (fun e => hne (by rw [e]))⟩
end Go.Proofs.Ytlcbjmbphekliaa.Sv
namespace Go.Proofs.Ytlcbjmbphekliaa.Sv
open Go.RowKit Go.WideShapes

/-- A row of texts. -/
def StrsIn (w : World) (q : Option Addr) (l : List ByteArray) : Prop := 0 < l.length → ∃ b o, q = some ⟨b, o, none⟩ ∧ ∀ i, i < l.length → w.cell? ⟨b, o + i, none⟩ = some (.string (l.getD i ByteArray.empty))
theorem StrsIn.below {w w' : World} {q : Option Addr} {l : List ByteArray} (h : StrsIn w q l) (hb : Below w.heap.size w w') : StrsIn w' q l := fun h0 => by
  obtain ⟨b, o, hq, hc⟩ := h h0
  exact ⟨b, o, hq, fun i hi => (hb.cell (World.block_lt_of_cell? _ _ (hc i hi))).trans (hc i hi)⟩
theorem StrsIn.addr {w : World} {q : Option Addr} {l : List ByteArray} (h : StrsIn w q l) (hp : 0 < l.length) : ∃ b o, q = some ⟨b, o, none⟩ := by
  obtain ⟨b, o, e, _⟩ := h hp
  exact ⟨b, o, e⟩
theorem StrsIn.at {w : World} {b o : Nat} {l : List ByteArray} (h : StrsIn w (some ⟨b, o, none⟩) l) {i : Nat} (hi : i < l.length) : w.cell? ⟨b, o + i, none⟩ = some (.string (l.getD i ByteArray.empty)) := by
  obtain ⟨b', o', e, hc⟩ := h (by omega)
  simp only [Option.some.injEq, Addr.mk.injEq, and_true] at e
  obtain ⟨rfl, rfl⟩ := e
  exact hc i hi
theorem getD_mem_s {l : List ByteArray} {k : Nat} (hk : k < l.length) : l.getD k ByteArray.empty ∈ l := by
  rw [List.getD_eq_getElem?_getD, List.getElem?_eq_getElem hk]; exact List.getElem_mem _
def longB (l : List ByteArray) : Bool := l.any fun s => decide (256 < s.size)
theorem longB_no {l : List ByteArray} : longB l = false ↔ ∀ s ∈ l, s.size ≤ 256 := by
  unfold longB
  rw [List.any_eq_false]
  constructor
  · intro h s hs; have := h s hs; simp at this; omega
  · intro h s hs; have := h s hs; simp; omega
theorem longB_yes {l : List ByteArray} : longB l = true ↔ ∃ s ∈ l, 256 < s.size := by
  unfold longB
  rw [List.any_eq_true]
  simp
set_option maxRecDepth 8000 in
set_option maxHeartbeats 4000000 in
theorem indexFunc_any (q : Option Addr) (n c : Nat) (l : List ByteArray) (w : World) (hn : n = l.length) (hl : StrsIn w q l) (hL : (n : Int) ≤ 1000000) :
    Calls Try.prog 101 #[.slice q n c, .func (.func 87) #[] #[]] w fun e w' => ∃ z : Int, e = .returned (.int .i64 z) ∧ decide (0 ≤ z) = longB l ∧ w' = w := by
  have HA : Hid (StrsIn w q l) := hl
  have HN : Hid (n = l.length) := hn
  clear hl hn
  go_enter Try.func101, Try.ntmps101
  go_wp2
  go_loop [8] (fun i => ∃ k : Nat, k ≤ n ∧ i = .int .i64 k ∧ Hid (∀ j, j < k → (l.getD j ByteArray.empty).size ≤ 256)) (fun i => n - (intOf i).toNat)
  case atStart => exact ⟨0, by omega, rfl, fun j hj => absurd hj (by omega)⟩
  case round =>
    obtain ⟨k, hk, rfl, hall⟩ := hrel
    by_cases hkn : k < n
    · have hkI : (k : Int) < (n : Int) := by omega
      obtain ⟨ba, oa, rfl⟩ := HA.out.addr (by have := HN.out; omega)
      obtain ⟨x, hx⟩ : ∃ x, l.getD k ByteArray.empty = x := ⟨_, rfl⟩
      have x0 := HA.out.at (i := k) (by have := HN.out; omega)
      rw [hx] at x0
      have HX : Hid (l.getD k ByteArray.empty = x ∧ k < l.length ∧ k < n) := ⟨hx, by have := HN.out; omega, hkn⟩
      clear hx hkn
      by_cases hm : x.size ≤ 256
      · have g1 : decide ((256 : Int) < (x.size : Int)) = false := decide_eq_false (by omega)
        have HM : Hid (∀ j, j < k + 1 → (l.getD j ByteArray.empty).size ≤ 256) := fun j hj => by
          rcases Nat.lt_or_ge j k with h' | h'
          · exact hall.out j h'
          · obtain rfl : j = k := by omega
            rw [HX.out.1]; exact hm
        clear hm hall
        go_wp2_with fail
        refine (tooLong_any x _).mono ?_
        rintro e w2 ⟨rfl, rfl⟩
        rw [g1]
        go_wp2
        go_round
        case rel => exact ⟨k + 1, by have := HX.out; omega, by go_num, HM⟩
        case measure => have := HX.out; simp [intOf]; omega
      · have g1 : decide ((256 : Int) < (x.size : Int)) = true := decide_eq_true (by omega)
        have HM : Hid (longB l = true) := longB_yes.2 ⟨x, by rw [← HX.out.1]; exact getD_mem_s HX.out.2.1, by omega⟩
        clear hm hall
        go_wp2_with fail
        refine (tooLong_any x _).mono ?_
        rintro e w2 ⟨rfl, rfl⟩
        rw [g1]
        go_wp2
        go_ret
        exact ⟨(k : Int), rfl, by rw [HM.out]; exact decide_eq_true (by omega), rfl⟩
    · have HK : Hid (longB l = false) := longB_no.2 (fun s hs => by
        obtain ⟨j, hj, rfl⟩ := List.getElem_of_mem hs
        have := hall.out j (by have := HN.out; omega)
        rw [List.getD_eq_getElem?_getD, List.getElem?_eq_getElem hj] at this
        exact this)
      obtain rfl : k = n := by omega
      clear hall hkn
      go_wp2
      go_ret
      exact ⟨-1, rfl, by rw [HK.out]; rfl, rfl⟩
theorem containsFunc_any (q : Option Addr) (n c : Nat) (l : List ByteArray) (w : World) (hn : n = l.length) (hl : StrsIn w q l) (hL : (n : Int) ≤ 1000000) (r : Bool) (hr : longB l = r) :
    Calls Try.prog 94 #[.slice q n c, .func (.func 87) #[] #[]] w fun e w' => e = .returned (.bool r) ∧ w' = w := by
  have HO := indexFunc_any q n c l w hn hl hL
  have HR : Hid (longB l = r) := hr
  clear hn hl hL hr
  go_enter Try.func94, Try.ntmps94
  go_wp2_with fail
  refine HO.mono ?_
  rintro e w1 ⟨z, rfl, hz, rfl⟩
  have HZ : Hid (decide (0 ≤ z) = r) := by show _ = _; rw [hz, HR.out]
  clear hz
  go_wp2
  go_ret
  exact ⟨by rw [← HZ.out]; rfl, rfl⟩
end Go.Proofs.Ytlcbjmbphekliaa.Sv
namespace Go.Proofs.Ytlcbjmbphekliaa.Sv
open Go.RowKit Go.WideShapes

theorem row_full {w : World} {base e g n : Nat} {xs : List Value} (h : w.ownsRow base e 1 (.slice (some ⟨g, 0, none⟩) n n) n xs) : w.heap[g]? = some (.cells xs.toArray e (0, 0)) := by
  rcases h.2 with ⟨h, _⟩ | ⟨g', cap, cur, hv, _, hg, _, _, hs, ht⟩
  · cases h
  · simp only [Value.slice.injEq, Option.some.injEq, Addr.mk.injEq, and_true, true_and] at hv
    obtain ⟨rfl, rfl⟩ := hv
    rw [hg]
    rw [List.take_of_length_le (by simp; omega)] at ht
    rw [← ht, Array.toArray_toList]
theorem zeros_made (n : Nat) : (madeCells #[Value.int .u8 0] n).toList = Bs (List.replicate n 0) := by
  rw [toList_madeCells_one]
  simp [Bs]
theorem bin_row {w : World} {g t : Nat} {xs : List Nat} (h : w.heap[g]? = some (.cells (Bs xs).toArray t (0, 0))) (hx : ∀ c ∈ xs, c < 256) : BIn w (some ⟨g, 0, none⟩) xs := by
  refine ⟨fun _ => ⟨g, 0, rfl, fun i hi => ?_⟩, hx⟩
  rw [Nat.zero_add, cell_of_row w g i _ _ _ h]
  simp [Bs, List.getD, List.getElem?_eq_getElem hi]
/-- A filter that is being made. -/
structure Flt (w0 w : World) (g m : Nat) (xs : List Nat) : Prop where
  blk : w.heap[g]? = some (.cells (Bs xs).toArray 5 (0, 0))
  len : xs.length = m / 8
  lt : ∀ c ∈ xs, c < 256
  below : Below w0.heap.size w0 w
  ge : w0.heap.size ≤ g
theorem Flt.next {w0 w w' : World} {g m : Nat} {xs : List Nat} (h : Flt w0 w g m xs) (hb : Below w.heap.size w w') : Flt w0 w' g m xs :=
  ⟨(hb.block g (lt_heap h.blk)).trans h.blk, h.len, h.lt, below_bt h.below hb, h.ge⟩
theorem Flt.set {w0 w : World} {g m : Nat} {xs : List Nat} (h : Flt w0 w g m xs) (n L cap : Nat) (hL : L = m / 8) (hn : n < m) (h8 : m % 8 = 0) (hm : (m : Int) ≤ 65536) :
    Calls Try.prog 95 #[.slice (some ⟨g, 0, none⟩) L cap, .int .i64 n] w fun e w' => e = .returned (.tuple #[]) ∧ Flt w0 w' g m (setN xs n) := by
  refine (set_any g L cap n xs w (by rw [h.len]; exact hL) h.blk h.lt (by rw [h.len]; exact mark_in h8 hn) (by omega)).mono ?_
  rintro e w' ⟨rfl, h1, h2⟩
  exact ⟨rfl, h1, by rw [setN_len]; exact h.len, setN_lt h.lt n, h.below.grown h2 h.below.size (fun k hk => by simp only [Option.some.injEq] at hk; have := h.ge; omega), h.ge⟩
set_option maxRecDepth 8000 in
set_option maxHeartbeats 4000000 in
theorem Make_ok (q : Option Addr) (n c m : Nat) (l : List ByteArray) (w : World) (hn : n = l.length) (hl : StrsIn w q l) (hN : (n : Int) ≤ 4096) (hlong : longB l = false) (h0 : (8 : Int) ≤ (m : Int)) (hm : (m : Int) ≤ 65536) (h8 : m % 8 = 0) :
    Calls Try.prog 77 #[.slice q n c, .int .i64 m] w fun e w' => ∃ g, e = .returned (.tuple #[.slice (some ⟨g, 0, none⟩) (m / 8) (m / 8), .int .i64 0]) ∧ Flt w w' g m (makeN l m) := by
  obtain ⟨i0, hi, hz0, hz1, hz2⟩ := info_parts info5
  have HN : Hid (n = l.length ∧ longB l = false ∧ m % 8 = 0) := ⟨hn, hlong, h8⟩
  have HL : Hid (StrsIn w q l) := hl
  have g8 : ((m : Int) % 8 != 0) = false := by simp; omega
  have hd : (m : Int) / 8 = ((m / 8 : Nat) : Int) := by omega
  obtain ⟨L, hLL⟩ : ∃ L, m / 8 = L := ⟨_, rfl⟩
  rw [hLL] at hd ⊢
  have HLL : Hid (m / 8 = L) := hLL
  have hL1 : (L : Int) ≤ 8192 := by omega
  clear hn hl hlong h8 hLL
  go_enter Try.func77, Try.ntmps77
  go_wp2_with fail
  refine (containsFunc_any q n c l _ HN.out.1 HL.out (by omega) false HN.out.2.1).mono ?_
  rintro e w1 ⟨rfl, rfl⟩
  go_wp2_with (at_make; refine wpList_make_full _ rfl _ _ 22 rfl w1.heap.size 5 i0 (.int .u8 0) 1 Try.underlying22 hi hz0 hz1 .i64 .i64 _ _ L rfl rfl (by omega) (by omega) (by rw [hz2]; omega) (by unfold maxLen; omega) (by simp) ?_)
  intro w2 hown hgrow
  have hrow := row_full hown
  rw [zeros_made] at hrow
  have HF : Hid (Flt w1 w2 w1.heap.size m (makeN (l.take 0) m)) := ⟨by rw [List.take_zero]; show w2.heap[w1.heap.size]? = some (Obj.cells (Bs (List.replicate (m / 8) 0)).toArray 5 (0, 0)); rw [HLL.out]; exact hrow, makeN_len _ _, makeN_lt _ _, (Below.refl _ _).grown hgrow (Nat.le_refl _) (fun k hk => by cases hk), Nat.le_refl _⟩
  clear hown hgrow hrow
  go_wp2
  go_loopw [32] (fun i wr => ∃ k : Nat, k ≤ n ∧ i = .int .i64 k ∧ Flt w1 wr w1.heap.size m (makeN (l.take k) m)) (fun i _ => n - (intOf i).toNat)
  case atStart => exact ⟨0, by omega, rfl, HF.out⟩
  case round =>
    obtain ⟨k, hk, rfl, hflt⟩ := hrel
    have HFl : Hid (Flt w1 wr w1.heap.size m (makeN (l.take k) m)) := hflt
    clear hflt HF
    by_cases hkn : k < n
    · have hkI : (k : Int) < (n : Int) := by omega
      obtain ⟨ba, oa, rfl⟩ := HL.out.addr (by have := HN.out; omega)
      obtain ⟨x, hx⟩ : ∃ x, l.getD k ByteArray.empty = x := ⟨_, rfl⟩
      have x0 := (HL.out.below HFl.out.below).at (i := k) (by have := HN.out; omega)
      rw [hx] at x0
      have hxm : x.size ≤ 256 := longB_no.1 HN.out.2.1 x (by rw [← hx]; exact getD_mem_s (by have := HN.out; omega))
      obtain ⟨m0, e0⟩ : ∃ a, markAt x 0 % m = a := ⟨_, rfl⟩
      obtain ⟨m1, e1⟩ : ∃ a, markAt x 1 % m = a := ⟨_, rfl⟩
      obtain ⟨m2, e2⟩ : ∃ a, markAt x 2 % m = a := ⟨_, rfl⟩
      obtain ⟨m3, e3⟩ : ∃ a, markAt x 3 % m = a := ⟨_, rfl⟩
      have HM : Hid (marksN x m = [m0, m1, m2, m3]) := by show _ = _; unfold marksN; rw [e0, e1, e2, e3]
      have HMl : Hid (m0 < m ∧ m1 < m ∧ m2 < m ∧ m3 < m) := by
        have h := marksN_lt x m (by omega)
        rw [HM.out] at h
        exact ⟨h _ (by simp), h _ (by simp), h _ (by simp), h _ (by simp)⟩
      have HMk := marks_any x m
      rw [e0, e1, e2, e3] at HMk
      have HMc : Hid (∀ w : World, Calls Try.prog 88 #[.string x, .int .i64 m] w fun e w' => e = .returned (.agg #[.int .i64 m0, .int .i64 m1, .int .i64 m2, .int .i64 m3]) ∧ Below w.heap.size w w') := fun w => HMk w (by omega) (by omega) hm
      have HX : Hid (l.getD k ByteArray.empty = x ∧ k < l.length ∧ k < n) := ⟨hx, by have := HN.out; omega, hkn⟩
      clear hx hkn hxm e0 e1 e2 e3 HMk
      have i0 : ∀ w, (Instr.index 125 (.agg #[.int .i64 m0, .int .i64 m1, .int .i64 m2, .int .i64 m3]) (.int .i64 0)).run Try.prog w = .ok (.int .i64 m0) w := fun _ => by kernel_rfl
      have i1 : ∀ w, (Instr.index 125 (.agg #[.int .i64 m0, .int .i64 m1, .int .i64 m2, .int .i64 m3]) (.int .i64 1)).run Try.prog w = .ok (.int .i64 m1) w := fun _ => by kernel_rfl
      have i2 : ∀ w, (Instr.index 125 (.agg #[.int .i64 m0, .int .i64 m1, .int .i64 m2, .int .i64 m3]) (.int .i64 2)).run Try.prog w = .ok (.int .i64 m2) w := fun _ => by kernel_rfl
      have i3 : ∀ w, (Instr.index 125 (.agg #[.int .i64 m0, .int .i64 m1, .int .i64 m2, .int .i64 m3]) (.int .i64 3)).run Try.prog w = .ok (.int .i64 m3) w := fun _ => by kernel_rfl
      go_wp2_with fail
      refine (HMc.out _).mono ?_
      rintro e w3 ⟨rfl, hb3⟩
      have HF3 : Hid (Flt w1 w3 w1.heap.size m (makeN (l.take k) m)) := HFl.out.next hb3
      clear hb3
      go_wp2
      refine wp_loop_rounds 5 ?_
      rw [rounds_succ]
      go_wp2_with fail
      refine (HF3.out.set m0 L L HLL.out.symm HMl.out.1 HN.out.2.2 hm).mono ?_
      rintro e w4 ⟨rfl, hf4⟩
      have HF4 : Hid (Flt w1 w4 w1.heap.size m (setN (makeN (l.take k) m) m0)) := hf4
      clear hf4
      go_wp2
      rw [rounds_succ]
      go_wp2_with fail
      refine (HF4.out.set m1 L L HLL.out.symm HMl.out.2.1 HN.out.2.2 hm).mono ?_
      rintro e w5 ⟨rfl, hf5⟩
      have HF5 : Hid (Flt w1 w5 w1.heap.size m (setN (setN (makeN (l.take k) m) m0) m1)) := hf5
      clear hf5
      go_wp2
      rw [rounds_succ]
      go_wp2_with fail
      refine (HF5.out.set m2 L L HLL.out.symm HMl.out.2.2.1 HN.out.2.2 hm).mono ?_
      rintro e w6 ⟨rfl, hf6⟩
      have HF6 : Hid (Flt w1 w6 w1.heap.size m (setN (setN (setN (makeN (l.take k) m) m0) m1) m2)) := hf6
      clear hf6
      go_wp2
      rw [rounds_succ]
      go_wp2_with fail
      refine (HF6.out.set m3 L L HLL.out.symm HMl.out.2.2.2 HN.out.2.2 hm).mono ?_
      rintro e w7 ⟨rfl, hf7⟩
      have HF7 : Hid (Flt w1 w7 w1.heap.size m (makeN (l.take (k + 1)) m)) := by
        rw [makeN_take l m k HX.out.2.1, HX.out.1, HM.out]; exact hf7
      clear hf7
      go_wp2
      rw [rounds_succ]
      go_wp2
      go_roundw
      case rel => exact ⟨k + 1, by have := HX.out; omega, by go_num, HF7.out⟩
      case measure => have := HX.out; simp [intOf]; omega
    · obtain rfl : k = n := by omega
      go_wp2
      go_ret2
      refine ⟨w1.heap.size, rfl, ?_⟩
      have := HFl.out
      rw [List.take_of_length_le (by have := HN.out; omega)] at this
      exact this
end Go.Proofs.Ytlcbjmbphekliaa.Sv
namespace Go.Proofs.Ytlcbjmbphekliaa.Sv
open Go.RowKit Go.WideShapes

theorem Make_many (q : Option Addr) (n c : Nat) (z : Int) (w : World) (hN : (4096 : Int) < (n : Int)) :
    Calls Try.prog 77 #[.slice q n c, .int .i64 z] w fun e w' => e = .returned (.tuple #[.slice none 0 0, .int .i64 4]) ∧ w' = w := by
  go_enter Try.func77, Try.ntmps77
  go_wp2
  go_ret2
  exact ⟨rfl, rfl⟩
theorem Make_long (q : Option Addr) (n c : Nat) (z : Int) (l : List ByteArray) (w : World) (hn : n = l.length) (hl : StrsIn w q l) (hN : (n : Int) ≤ 4096) (hlong : longB l = true) :
    Calls Try.prog 77 #[.slice q n c, .int .i64 z] w fun e w' => e = .returned (.tuple #[.slice none 0 0, .int .i64 3]) ∧ w' = w := by
  have HC := containsFunc_any q n c l w hn hl (by omega) true hlong
  clear hn hl hlong
  go_enter Try.func77, Try.ntmps77
  go_wp2_with fail
  refine HC.mono ?_
  rintro e w1 ⟨rfl, rfl⟩
  go_wp2
  go_ret2
  exact ⟨rfl, rfl⟩
theorem Make_arg (q : Option Addr) (n c : Nat) (z : Int) (l : List ByteArray) (w : World) (hn : n = l.length) (hl : StrsIn w q l) (hN : (n : Int) ≤ 4096) (hlong : longB l = false) (hz : z < 8 ∨ 65536 < z ∨ z % 8 ≠ 0) :
    Calls Try.prog 77 #[.slice q n c, .int .i64 z] w fun e w' => e = .returned (.tuple #[.slice none 0 0, .int .i64 2]) ∧ w' = w := by
  have HC := containsFunc_any q n c l w hn hl (by omega) false hlong
  clear hn hl hlong
  by_cases h1 : z < 8
  · clear hz
    go_enter Try.func77, Try.ntmps77
    go_wp2_with fail
    refine HC.mono ?_
    rintro e w1 ⟨rfl, rfl⟩
    go_wp2
    go_ret2
    exact ⟨rfl, rfl⟩
  · by_cases h2 : 65536 < z
    · clear hz
      go_enter Try.func77, Try.ntmps77
      go_wp2_with fail
      refine HC.mono ?_
      rintro e w1 ⟨rfl, rfl⟩
      go_wp2
      go_ret2
      exact ⟨rfl, rfl⟩
    · have g1 : (z % 8 != 0) = true := by simp; omega
      have h3 : 8 ≤ z := by omega
      have h4 : z ≤ 65536 := by omega
      clear hz h1 h2
      go_enter Try.func77, Try.ntmps77
      go_wp2_with fail
      refine HC.mono ?_
      rintro e w1 ⟨rfl, rfl⟩
      go_wp2
      go_ret2
      exact ⟨rfl, rfl⟩
theorem Has_arg (p : Option Addr) (L cap : Nat) (s : ByteArray) (w : World) (h : (L : Int) < 1 ∨ (8192 : Int) < (L : Int)) :
    Calls Try.prog 61 #[.slice p L cap, .string s] w fun e w' => e = .returned (.tuple #[.bool false, .int .i64 2]) ∧ w' = w := by
  rcases h with h | h
  · go_enter Try.func61, Try.ntmps61
    go_wp2
    go_ret2
    exact ⟨rfl, rfl⟩
  · have h' : ¬ ((L : Int) < 1) := by omega
    go_enter Try.func61, Try.ntmps61
    go_wp2
    go_ret2
    exact ⟨rfl, rfl⟩
theorem Has_long (p : Option Addr) (L cap : Nat) (s : ByteArray) (w : World) (h1 : (1 : Int) ≤ (L : Int)) (h2 : (L : Int) ≤ 8192) (hs : (256 : Int) < (s.size : Int)) :
    Calls Try.prog 61 #[.slice p L cap, .string s] w fun e w' => e = .returned (.tuple #[.bool false, .int .i64 3]) ∧ w' = w := by
  have g1 : decide ((256 : Int) < (s.size : Int)) = true := decide_eq_true hs
  clear hs
  go_enter Try.func61, Try.ntmps61
  go_wp2_with fail
  refine (tooLong_any s _).mono ?_
  rintro e w2 ⟨rfl, rfl⟩
  rw [g1]
  go_wp2
  go_ret2
  exact ⟨rfl, rfl⟩
set_option maxRecDepth 8000 in
set_option maxHeartbeats 4000000 in
theorem Has_ok (p : Option Addr) (L cap : Nat) (xs : List Nat) (s : ByteArray) (w : World) (hL : L = xs.length) (hb : BIn w p xs) (h1 : (1 : Int) ≤ (L : Int)) (h2 : (L : Int) ≤ 8192) (hs : (s.size : Int) ≤ 256) (r : Bool) (hr : hasB xs s = r) :
    Calls Try.prog 61 #[.slice p L cap, .string s] w fun e w' => e = .returned (.tuple #[.bool r, .int .i64 0]) ∧ Below w.heap.size w w' := by
  have g1 : decide ((256 : Int) < (s.size : Int)) = false := decide_eq_false (by omega)
  obtain ⟨m, hm⟩ : ∃ m, 8 * L = m := ⟨_, rfl⟩
  have hmI : (8 : Int) * (L : Int) = (m : Int) := by omega
  obtain ⟨m0, e0⟩ : ∃ a, markAt s 0 % m = a := ⟨_, rfl⟩
  obtain ⟨m1, e1⟩ : ∃ a, markAt s 1 % m = a := ⟨_, rfl⟩
  obtain ⟨m2, e2⟩ : ∃ a, markAt s 2 % m = a := ⟨_, rfl⟩
  obtain ⟨m3, e3⟩ : ∃ a, markAt s 3 % m = a := ⟨_, rfl⟩
  have HM : Hid (marksN s m = [m0, m1, m2, m3]) := by show _ = _; unfold marksN; rw [e0, e1, e2, e3]
  have HMl : Hid (m0 < m ∧ m1 < m ∧ m2 < m ∧ m3 < m) := by
    have h := marksN_lt s m (by omega)
    rw [HM.out] at h
    exact ⟨h _ (by simp), h _ (by simp), h _ (by simp), h _ (by simp)⟩
  have HMk := marks_any s m
  rw [e0, e1, e2, e3] at HMk
  have HMc : Hid (∀ w : World, Calls Try.prog 88 #[.string s, .int .i64 m] w fun e w' => e = .returned (.agg #[.int .i64 m0, .int .i64 m1, .int .i64 m2, .int .i64 m3]) ∧ Below w.heap.size w w') := fun w => HMk w hs (by omega) (by omega)
  have HR : Hid ((((xs.getD (m0 / 8) 0).testBit (m0 % 8)) && (((xs.getD (m1 / 8) 0).testBit (m1 % 8)) && (((xs.getD (m2 / 8) 0).testBit (m2 % 8)) && ((xs.getD (m3 / 8) 0).testBit (m3 % 8))))) = r) := by
    show _ = _
    rw [← hr]
    unfold hasB
    rw [← hL, hm, HM.out]
    simp
  have HLk : Hid (∀ (n : Nat) (r : Bool) (w' : World), n < m → Below w.heap.size w w' → (xs.getD (n / 8) 0).testBit (n % 8) = (!r) → Calls Try.prog 89 #[.slice p L cap, .int .i64 n] w' fun e w2 => e = .returned (.bool r) ∧ w2 = w') := fun n r w' hn hbl hr => lacks_any p L cap n xs w' hL (hb.below hbl) (by omega) (by omega) r hr
  obtain ⟨b0, hb0⟩ : ∃ b, (xs.getD (m0 / 8) 0).testBit (m0 % 8) = b := ⟨_, rfl⟩
  obtain ⟨b1, hb1⟩ : ∃ b, (xs.getD (m1 / 8) 0).testBit (m1 % 8) = b := ⟨_, rfl⟩
  obtain ⟨b2, hb2⟩ : ∃ b, (xs.getD (m2 / 8) 0).testBit (m2 % 8) = b := ⟨_, rfl⟩
  obtain ⟨b3, hb3⟩ : ∃ b, (xs.getD (m3 / 8) 0).testBit (m3 % 8) = b := ⟨_, rfl⟩
  rw [hb0, hb1, hb2, hb3] at HR
  have HBs : Hid ((xs.getD (m0 / 8) 0).testBit (m0 % 8) = b0 ∧ (xs.getD (m1 / 8) 0).testBit (m1 % 8) = b1 ∧ (xs.getD (m2 / 8) 0).testBit (m2 % 8) = b2 ∧ (xs.getD (m3 / 8) 0).testBit (m3 % 8) = b3) := ⟨hb0, hb1, hb2, hb3⟩
  clear hb0 hb1 hb2 hb3 e0 e1 e2 e3 HMk hr hm hb hL HM
  have i0 : ∀ w, (Instr.index 125 (.agg #[.int .i64 m0, .int .i64 m1, .int .i64 m2, .int .i64 m3]) (.int .i64 0)).run Try.prog w = .ok (.int .i64 m0) w := fun _ => by kernel_rfl
  have i1 : ∀ w, (Instr.index 125 (.agg #[.int .i64 m0, .int .i64 m1, .int .i64 m2, .int .i64 m3]) (.int .i64 1)).run Try.prog w = .ok (.int .i64 m1) w := fun _ => by kernel_rfl
  have i2 : ∀ w, (Instr.index 125 (.agg #[.int .i64 m0, .int .i64 m1, .int .i64 m2, .int .i64 m3]) (.int .i64 2)).run Try.prog w = .ok (.int .i64 m2) w := fun _ => by kernel_rfl
  have i3 : ∀ w, (Instr.index 125 (.agg #[.int .i64 m0, .int .i64 m1, .int .i64 m2, .int .i64 m3]) (.int .i64 3)).run Try.prog w = .ok (.int .i64 m3) w := fun _ => by kernel_rfl
  go_enter Try.func61, Try.ntmps61
  go_wp2_with fail
  refine (tooLong_any s _).mono ?_
  rintro e w2 ⟨rfl, rfl⟩
  rw [g1]
  go_wp2_with fail
  refine (HMc.out _).mono ?_
  rintro e w3 ⟨rfl, hb3⟩
  have HB3 : Hid (Below w2.heap.size w2 w3) := hb3
  clear hb3
  go_wp2
  refine wp_loop_rounds 5 ?_
  rw [rounds_succ]
  go_wp2_with fail
  cases b0
  · refine (HLk.out m0 true _ HMl.out.1 HB3.out (by rw [HBs.out.1]; rfl)).mono ?_
    rintro e w4 ⟨rfl, rfl⟩
    go_wp2
    go_ret2
    exact ⟨by rw [← HR.out]; simp, HB3.out⟩
  · refine (HLk.out m0 false _ HMl.out.1 HB3.out (by rw [HBs.out.1]; rfl)).mono ?_
    rintro e w4 ⟨rfl, rfl⟩
    go_wp2
    rw [rounds_succ]
    go_wp2_with fail
    cases b1
    · refine (HLk.out m1 true _ HMl.out.2.1 HB3.out (by rw [HBs.out.2.1]; rfl)).mono ?_
      rintro e w4 ⟨rfl, rfl⟩
      go_wp2
      go_ret2
      exact ⟨by rw [← HR.out]; simp, HB3.out⟩
    · refine (HLk.out m1 false _ HMl.out.2.1 HB3.out (by rw [HBs.out.2.1]; rfl)).mono ?_
      rintro e w4 ⟨rfl, rfl⟩
      go_wp2
      rw [rounds_succ]
      go_wp2_with fail
      cases b2
      · refine (HLk.out m2 true _ HMl.out.2.2.1 HB3.out (by rw [HBs.out.2.2.1]; rfl)).mono ?_
        rintro e w4 ⟨rfl, rfl⟩
        go_wp2
        go_ret2
        exact ⟨by rw [← HR.out]; simp, HB3.out⟩
      · refine (HLk.out m2 false _ HMl.out.2.2.1 HB3.out (by rw [HBs.out.2.2.1]; rfl)).mono ?_
        rintro e w4 ⟨rfl, rfl⟩
        go_wp2
        rw [rounds_succ]
        go_wp2_with fail
        cases b3
        · refine (HLk.out m3 true _ HMl.out.2.2.2 HB3.out (by rw [HBs.out.2.2.2]; rfl)).mono ?_
          rintro e w4 ⟨rfl, rfl⟩
          go_wp2
          go_ret2
          exact ⟨by rw [← HR.out]; simp, HB3.out⟩
        · refine (HLk.out m3 false _ HMl.out.2.2.2 HB3.out (by rw [HBs.out.2.2.2]; rfl)).mono ?_
          rintro e w4 ⟨rfl, rfl⟩
          go_wp2
          rw [rounds_succ]
          go_wp2
          go_ret2
          exact ⟨by rw [← HR.out]; rfl, HB3.out⟩
/-- Numbers as cells. -/
def Is (l : List Nat) : List Value := l.map fun n : Nat => Value.int .i64 (n : Int)
end Go.Proofs.Ytlcbjmbphekliaa.Sv
namespace Go.Proofs.Ytlcbjmbphekliaa.Sv
open Go.RowKit Go.WideShapes Go.ChangeShapes

structure StrRow (w : World) (v : Value) (l : List ByteArray) : Prop where
  lies : ∃ q c, v = .slice q l.length c ∧ StrsIn w q l ∧ l.length ≤ c ∧ c ≤ maxLen ∧ (q = none → c = 0)
  each : ∀ s ∈ l, s.size ≤ maxLen
section
variable {P : Program} {w : World} {H : Type} {enc : TypeId × Value → H}
theorem open_strs {t e : TypeId} {n : Nat} {v : Value} {x : DataW H × List MemPlace} (ht : P.underlying t = some (.slice e)) (he : P.underlying e = some .string) (hc : P.cellsOf e = 1)
    (h : DataW.trod enc P w 0 (fun _ => true) true n t [v] = some x) : ∃ l, StrRow w v l := by
  rcases open_strings ht he hc h with ⟨hcs, _⟩ | ⟨a, len, cap, ss, hcs, _, hl, hm, hz, _, hcell, hsz⟩
  · simp only [List.cons.injEq, and_true] at hcs
    exact ⟨[], ⟨none, 0, hcs, fun h => absurd h (by simp), by simp, by unfold maxLen; omega, fun _ => rfl⟩, by simp⟩
  · simp only [List.cons.injEq, and_true] at hcs
    have hz' : ss.length = cap := by simpa using hz
    have hlen : (ss.take len).length = len := by simp; omega
    refine ⟨ss.take len, ⟨⟨some a, cap, by rw [hlen]; exact hcs, fun hp => ?_, by rw [hlen]; exact hl, hm, by simp⟩, fun s hs => hsz s (List.mem_of_mem_take hs)⟩⟩
    rw [hlen] at hp
    obtain ⟨b, o, s⟩ := a
    obtain rfl : s = none := by simpa [Addr.add] using World.cell?_spot (hcell 0 (by omega))
    refine ⟨b, o, rfl, fun i hi => ?_⟩
    rw [hlen] at hi
    rw [← add_plain, hcell i (by omega)]
    simp [List.getD, List.getElem?_take_of_lt hi]
end
def makeE (l : List ByteArray) (z : Int) : Nat := if 4096 < l.length then 4 else if longB l = true then 3 else if z < 8 ∨ 65536 < z ∨ z % 8 ≠ 0 then 2 else 0
theorem makeE_ok {l : List ByteArray} {z : Int} (h : makeE l z = 0) : l.length ≤ 4096 ∧ longB l = false ∧ 8 ≤ z ∧ z ≤ 65536 ∧ z % 8 = 0 := by
  unfold makeE at h
  split at h
  · cases h
  · split at h
    · cases h
    · split at h
      · cases h
      · rename_i h1 h2 h3
        exact ⟨by omega, by simpa using h2, by omega, by omega, by omega⟩
theorem makeE_is {l : List ByteArray} {z : Int} (h1 : l.length ≤ 4096) (h2 : longB l = false) (h3 : 8 ≤ z) (h4 : z ≤ 65536) (h5 : z % 8 = 0) : makeE l z = 0 := by
  unfold makeE
  rw [if_neg (by omega), if_neg (by simp [h2]), if_neg (by omega)]
theorem makeE_range (l : List ByteArray) (z : Int) : makeE l z ≤ 4 := by
  unfold makeE
  split
  · omega
  · split
    · omega
    · split <;> omega
/-- What Make answers. -/
structure Made (w w' : World) (v : Value) (l : List ByteArray) (z : Int) : Prop where
  no : makeE l z ≠ 0 → v = .slice none 0 0
  yes : makeE l z = 0 → ∃ g, v = .slice (some ⟨g, 0, none⟩) (z.toNat / 8) (z.toNat / 8) ∧ w'.heap[g]? = some (.cells (Bs (makeN l z.toNat)).toArray 5 (0, 0)) ∧ w.heap.size ≤ g
  below : Below w.heap.size w w'
theorem Make_u (q : Option Addr) (n c : Nat) (l : List ByteArray) (z : Int) (w : World) (hn : n = l.length) (hl : StrsIn w q l) (E : Nat) (hE : makeE l z = E) :
    Calls Try.prog 77 #[.slice q n c, .int .i64 z] w fun e w' => ∃ v, e = .returned (.tuple #[v, .int .i64 E]) ∧ Made w w' v l z := by
  subst hE
  by_cases h1 : 4096 < l.length
  · have e : makeE l z = 4 := by unfold makeE; rw [if_pos h1]
    rw [e]
    refine (Make_many q n c z w (by omega)).mono ?_
    rintro _ w' ⟨rfl, rfl⟩
    exact ⟨_, rfl, fun _ => rfl, fun h => (by rw [e] at h; cases h), Below.refl _ _⟩
  · cases h2 : longB l with
    | true =>
      have e : makeE l z = 3 := by unfold makeE; rw [if_neg h1, if_pos h2]
      rw [e]
      refine (Make_long q n c z l w hn hl (by omega) h2).mono ?_
      rintro _ w' ⟨rfl, rfl⟩
      exact ⟨_, rfl, fun _ => rfl, fun h => (by rw [e] at h; cases h), Below.refl _ _⟩
    | false =>
      by_cases h3 : z < 8 ∨ 65536 < z ∨ z % 8 ≠ 0
      · have e : makeE l z = 2 := by unfold makeE; rw [if_neg h1, if_neg (by simp [h2]), if_pos h3]
        rw [e]
        refine (Make_arg q n c z l w hn hl (by omega) h2 h3).mono ?_
        rintro _ w' ⟨rfl, rfl⟩
        exact ⟨_, rfl, fun _ => rfl, fun h => (by rw [e] at h; cases h), Below.refl _ _⟩
      · have e : makeE l z = 0 := makeE_is (by omega) h2 (by omega) (by omega) (by omega)
        rw [e]
        obtain ⟨m, rfl⟩ : ∃ m : Nat, z = m := ⟨z.toNat, by omega⟩
        refine (Make_ok q n c m l w hn hl (by omega) h2 (by omega) (by omega) (by omega)).mono ?_
        rintro _ w' ⟨g, rfl, hf⟩
        exact ⟨_, rfl, fun h => absurd e h, fun _ => ⟨g, by simp, by simpa using hf.blk, hf.ge⟩, hf.below⟩
theorem below_dr (w : World) (n : Nat) : Below w.heap.size w (w.drewN n) := ⟨rfl, rfl, rfl, Nat.le_refl _, fun _ _ => rfl⟩
theorem is_cell {w : World} {g : Nat} {l : List Nat} {t : TypeId} (h : w.heap[g]? = some (.cells (Is l).toArray t (0, 0))) {k : Nat} (hk : k < l.length) : w.cell? ⟨g, k, none⟩ = some (.int .i64 (l.getD k 0 : Nat)) := by
  rw [Lib.cell_of_heap h]
  simp [Is, List.getD, List.getElem?_eq_getElem hk]
def keyA : ByteArray := ⟨#[97]⟩
theorem made_a : makeN [keyA] 8 = [15] := by decide +kernel
theorem has_a : hasB [15] keyA = true := by decide +kernel
theorem strs_one (w : World) (s : ByteArray) (e : TypeId) : StrsIn (w.alloc (.cells #[.string s] e)) (some ⟨w.heap.size, 0, none⟩) [s] := by
  intro _
  refine ⟨w.heap.size, 0, rfl, fun i hi => ?_⟩
  have hh := heap_alloc_new w (.cells #[.string s] e)
  obtain rfl : i = 0 := by simpa using hi
  rw [Lib.cell_of_heap hh]
  simp
end Go.Proofs.Ytlcbjmbphekliaa.Sv
