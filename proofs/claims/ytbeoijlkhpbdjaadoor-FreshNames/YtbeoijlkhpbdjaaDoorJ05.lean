/-
  Put of a list.
-/
import Derived.Test.YtbeoijlkhpbdjaaDoorJ04
import Derived.Lib.AppendZeros
namespace Go.Proofs.YtbeoijlkhpbdjaaDoor
open Go.RowKit Go.WideShapes

def agA (b : Nat → Nat) : Array Value := #[.pointer (some ⟨b 0, 0, none⟩), .pointer (some ⟨b 1, 0, none⟩), .pointer (some ⟨b 2, 0, none⟩), .pointer (some ⟨b 3, 0, none⟩), .pointer (some ⟨b 4, 0, none⟩), .pointer (some ⟨b 5, 0, none⟩), .pointer (some ⟨b 6, 0, none⟩), .pointer (some ⟨b 7, 0, none⟩), .pointer (some ⟨b 8, 0, none⟩), .pointer (some ⟨b 9, 0, none⟩), .pointer (some ⟨b 10, 0, none⟩), .pointer (some ⟨b 11, 0, none⟩)]
theorem agA_at {b : Nat → Nat} {j : Nat} (h : j < 12) : (agA b)[j]? = some (.pointer (some ⟨b j, 0, none⟩)) := by
  have hc : j = 0 ∨ j = 1 ∨ j = 2 ∨ j = 3 ∨ j = 4 ∨ j = 5 ∨ j = 6 ∨ j = 7 ∨ j = 8 ∨ j = 9 ∨ j = 10 ∨ j = 11 := by omega
  rcases hc with rfl | rfl | rfl | rfl | rfl | rfl | rfl | rfl | rfl | rfl | rfl | rfl <;> rfl
theorem ahead_b (Z : Nat → Prop) (lk : Nat) (al : List NodV) (x : EntV) (w : World) (hs : Skip w Z lk al) (hr : RiseE (eosN al)) :
    Calls Tryd.prog 40 #[.pointer (some ⟨lk, 0, none⟩), entV x] w fun e w' => (∃ f b : Nat → Nat, e = .returned (.agg #[.pointer (some ⟨b 0, 0, none⟩), .pointer (some ⟨b 1, 0, none⟩), .pointer (some ⟨b 2, 0, none⟩), .pointer (some ⟨b 3, 0, none⟩), .pointer (some ⟨b 4, 0, none⟩), .pointer (some ⟨b 5, 0, none⟩), .pointer (some ⟨b 6, 0, none⟩), .pointer (some ⟨b 7, 0, none⟩), .pointer (some ⟨b 8, 0, none⟩), .pointer (some ⟨b 9, 0, none⟩), .pointer (some ⟨b 10, 0, none⟩), .pointer (some ⟨b 11, 0, none⟩)]) ∧ (∀ h, h < 12 → AheadN al x h (f h)) ∧ ∀ h, (al.getD (f h) zN).nb = b h) ∧ Below w.heap.size w w' :=
  (ahead_agg Z lk al x w hs hr).mono fun _ _ ⟨⟨f, h1, h2⟩, h3⟩ => ⟨⟨f, fun h => (al.getD (f h) zN).nb, h1, h2, fun _ => rfl⟩, h3⟩
/-- Ahead of the linking: all as it was, but for boxes. -/
structure OnP (w : World) (Z : Nat → Prop) (lk g : Nat) (al : List NodV) (b : Nat → Nat) (x : EntV) (wr : World) : Prop where
  sk : Skip wr Z lk al
  bel : Below w.heap.size w wr
  xb : wr.heap[w.heap.size]? = some (.cells #[.string x.key, .string x.val, .int .i64 x.seq, .bool x.gone] 23 (0, 0))
  ab : wr.heap[g]? = some (.cells (agA b) 69 (0, 0))
theorem OnP.next {w wr w' : World} {Z : Nat → Prop} {lk g : Nat} {al : List NodV} {b : Nat → Nat} {x : EntV} (h : OnP w Z lk g al b x wr) (hb : Below wr.heap.size wr w') : OnP w Z lk g al b x w' := ⟨h.sk.below hb, below_bt h.bel hb, block_below' h.xb hb, block_below' h.ab hb⟩
theorem OnP.drewN {w wr : World} {Z : Nat → Prop} {lk g : Nat} {al : List NodV} {b : Nat → Nat} {x : EntV} (h : OnP w Z lk g al b x wr) (n : Nat) : OnP w Z lk g al b x (wr.drewN n) := ⟨⟨h.sk.pos, h.sk.head, h.sk.lkb, h.sk.links, h.sk.nod, h.sk.nxt, h.sk.high, h.sk.apart, h.sk.apartn⟩, below_drewN h.bel n, h.xb, h.ab⟩
theorem InP.drew {Z : Nat → Prop} {lk g : Nat} {al : List NodV} {f : Nat → Nat} {A : Array Value} {m : NodV} {k : Nat} {wr : World} (h : InP Z lk g al f A m k wr) : InP Z lk g al f A m k wr.drew := ⟨h.lkb, h.ab, h.nod, h.nxt, h.new, h.newb⟩
theorem Kept.drew {Z : Nat → Prop} {w w' : World} (h : Kept Z w w') : Kept Z w w'.drew := ⟨h.os, h.tape, h.output, h.size, h.blk, h.typ⟩
def putR (l : List EntV) (x : EntV) : List EntV × Nat :=
  if placeE l x < l.length ∧ sameE (l.getD (placeE l x) zeroE) x = true then (l, 100) else if 4096 ≤ l.length then (l, 4) else (insE l x, 0)
set_option maxRecDepth 8000 in
set_option maxHeartbeats 4000000 in
theorem putL_any (Z : Nat → Prop) (lk : Nat) (al : List NodV) (x : EntV) (w : World) (hs : Skip w Z lk al) (hr : RiseE (eosN al)) (hlen : al.length ≤ 4097) (hL : Laid w) (hb2 : ¬ Z 1) (hbw : ∀ k, w.heap.size ≤ k → Z k) (l' : List EntV) (E : Nat) (hR : putR (eosN al) x = (l', E)) :
    Calls Tryd.prog 29 #[.pointer (some ⟨lk, 0, none⟩), entV x] w fun e w' => e = .returned (.int .i64 (E : Int)) ∧ (∃ al', Skip w' Z lk al' ∧ eosN al' = l') ∧ Kept Z w w' := by
  have HS : Hid (Skip w Z lk al) := hs
  have HLN : Hid (al.length ≤ 4097) := hlen
  have HB2 : Hid (¬ Z 1 ∧ ∀ k, w.heap.size ≤ k → Z k) := ⟨hb2, hbw⟩
  have HLA : Hid (Laid w) := hL
  have HRE : Hid (putR (eosN al) x = (l', E)) := hR
  have H := fun v' => ahead_b Z lk al x (w.alloc (.cells v' 23)) (hs.below (below_alloc _ _)) hr
  obtain ⟨ke, ve, se, ge⟩ := x
  rw [entV_def] at H ⊢
  clear hs hr hlen hb2 hbw hL hR
  go_enter Tryd.func29, Tryd.ntmps29
  go_wp2_with fail
  refine (H _).mono ?_
  rintro e w2 ⟨⟨f, b, rfl, hf, hbf⟩, hb⟩
  have HBF : Hid (∀ h, (al.getD (f h) zN).nb = b h) := hbf
  have HF : Hid (∀ h, h < 12 → AheadN al ⟨ke, ve, se, ge⟩ h (f h)) := hf
  have hO : OnP w Z lk w2.heap.size al b ⟨ke, ve, se, ge⟩ (w2.alloc (.cells (agA b) 69)) :=
    ⟨(HS.out.below (below_bt (below_alloc w _) hb)).below (below_alloc _ _), below_bt (below_bt (below_alloc w _) hb) (below_alloc _ _), block_below' (block_below' (heap_alloc_new _ _) hb) (below_alloc _ _), heap_alloc_new _ _⟩
  clear hb hf H
  have hb0 := hbf 0
  have h0 := HF.out 0 (by omega)
  have hpl := ahead_place h0 (fun q hq => (HS.out.high q hq).1)
  obtain ⟨n, hn⟩ : ∃ n, al.getD (f 0) zN = n := ⟨_, rfl⟩
  obtain ⟨_, _, _, _, d4⟩ := hO.sk.cells h0.lt hn
  have hhi := (hO.sk.high _ h0.lt).1
  have cn := hO.sk.next h0.lt hn (k := 0) (by rw [← hn]; exact hhi)
  rw [next0 (fun q hq => (HS.out.high q hq).1)] at cn
  rw [hn] at hhi
  have htI : (1 : Int) ≤ ((n.ht : Nat) : Int) := by omega
  have HO : Hid (OnP w Z lk w2.heap.size al b ⟨ke, ve, se, ge⟩ (w2.alloc (.cells (agA b) 69))) := hO
  have HN : Hid (al.getD (f 0) zN = n) := hn
  have HPL : Hid (placeE (eosN al) ⟨ke, ve, se, ge⟩ = f 0) := hpl
  have HFL : Hid (f 0 < al.length) := h0.lt
  clear h0 hpl hO hhi hbf
  obtain ⟨x0, x1, x2, x3⟩ := four_cells HO.out.xb
  unfold agA at d4 cn x0 x1 x2 x3
  rw [hn] at hb0
  rw [hb0] at d4
  clear hn
  obtain ⟨ne, nb, bb, ht⟩ := n
  simp only at d4 cn htI x0 x1 x2 x3 hb0
  subst hb0
  cases hnx : al[f 0 + 1]? with
  | none =>
    rw [hnx] at cn
    simp only [ptO_eq, adO] at cn
    have HNX : Hid (al[f 0 + 1]? = none) := hnx
    clear hnx
    go_wp2
    go_quiet (fail)
    have HOz : Hid (OnP w Z lk w2.heap.size al b ⟨ke, ve, se, ge⟩ ((w2.alloc (.cells (agA b) 69)).drewN nq)) := HO.out.drewN nq
    have HNS : Hid (¬ (placeE (eosN al) ⟨ke, ve, se, ge⟩ < (eosN al).length ∧ sameE ((eosN al).getD (placeE (eosN al) ⟨ke, ve, se, ge⟩) zeroE) ⟨ke, ve, se, ge⟩ = true)) := by
      rintro ⟨h1, _⟩
      rw [HPL.out, eosN_len] at h1
      have h2 := HNX.out
      rw [List.getElem?_eq_none_iff] at h2
      omega
    unfold agA at HOz
    clear d4 cn x0 x1 x2 x3 HO
    generalize World.drewN _ nq = wz at HOz ⊢
    generalize w2.heap.size = g at *
    have hl := HOz.out.sk.links
    have l1 : wz.cell? ⟨lk, 1, none⟩ = some (.int .i64 ((al.length - 1 : Nat) : Int)) := Lib.cell_of_heap hl 1
    have l1f := frozen_row hl 1
    obtain ⟨c, hc⟩ : ∃ c, al.length - 1 = c := ⟨_, rfl⟩
    rw [hc] at l1
    have HC : Hid (al.length - 1 = c) := hc
    clear hl hc
    by_cases hcm : c = 4096
    · have HE : Hid (l' = eosN al ∧ E = 4) := by
        have h := HRE.out
        unfold putR at h
        rw [if_neg HNS.out, if_pos (by rw [eosN_len, HC.out]; omega)] at h
        exact ⟨(Prod.mk.inj h).1.symm, (Prod.mk.inj h).2.symm⟩
      subst hcm
      go_wp2
      go_ret
      exact ⟨by rw [HE.out.2]; rfl, ⟨al, HOz.out.sk, HE.out.1.symm⟩, kept_below HOz.out.bel⟩
    · have HCM : Hid (c < 4096) := by have h1 := HLN.out; have h2 := HC.out; show _ < _; omega
      have hcI : ((c : Int) == 4096) = false := by simp; omega
      have hcI2 : (c : Int) < 4096 := by have := HCM.out; omega
      have hcI3 : (0 : Int) ≤ (c : Int) := by omega
      clear hcm
      obtain ⟨c1, hc1⟩ : ∃ c1 : Nat, (c : Int) + 1 = (c1 : Int) := ⟨c + 1, by omega⟩
      have HC1 : Hid (c1 = al.length) := by have h1 := HC.out; have h2 := HOz.out.sk.pos; show _ = _; omega
      have HCW : Hid ((c : Int) + 1 = (c1 : Int)) := hc1
      clear hc1
      go_wp2
      rw [HCW.out]
      have H5 : Hid (Kept Z w (wz.setCell ⟨lk, 1, none⟩ (.int .i64 (c1 : Int)))) := (kept_below HOz.out.bel).trans (kept_set HOz.out.sk.links (.inr rfl) HOz.out.sk.lkb _)
      have X5 : Hid ((wz.setCell ⟨lk, 1, none⟩ (.int .i64 (c1 : Int))).heap[w.heap.size]? = some (.cells #[.string ke, .string ve, .int .i64 se, .bool ge] 23 (0, 0))) := set_typ HOz.out.sk.links HOz.out.xb (by decide) _
      have A5 : Hid ((wz.setCell ⟨lk, 1, none⟩ (.int .i64 (c1 : Int))).heap[g]? = some (.cells (agA b) 69 (0, 0))) := set_typ HOz.out.sk.links HOz.out.ab (by decide) _
      have L5 : Hid ((wz.setCell ⟨lk, 1, none⟩ (.int .i64 (c1 : Int))).heap[lk]? = some (.cells #[ptN (al.getD 0 zN), .int .i64 (c1 : Int)] 72 (0, 0))) := heap_setCell_same wz lk 1 _ _ _ HOz.out.sk.links
      have N5 : Hid (∀ p, p < al.length → (wz.setCell ⟨lk, 1, none⟩ (.int .i64 (c1 : Int))).heap[(al.getD p zN).nb]? = some (.cells (nodC (al.getD p zN)) 58 (0, 0))) := fun p hp => set_typ HOz.out.sk.links (HOz.out.sk.nod p hp).2 (by decide) _
      have P5 : Hid (∀ p, p < al.length → ∃ cs, (wz.setCell ⟨lk, 1, none⟩ (.int .i64 (c1 : Int))).heap[(al.getD p zN).bb]? = some (.cells cs 54 (0, 0)) ∧ cs.size = (al.getD p zN).ht ∧ ∀ h, h < (al.getD p zN).ht → cs[h]? = some (ptO (nxN h (al.drop (p + 1))))) := fun p hp => by
        obtain ⟨_, cs, q1, q2⟩ := HOz.out.sk.nxt p hp
        exact ⟨cs, set_typ HOz.out.sk.links q1 (by decide) _, q2⟩
      clear l1 l1f hcI hcI2 hcI3
      generalize wz.setCell ⟨lk, 1, none⟩ (.int .i64 (c1 : Int)) = w5 at *
      have HKS : ∀ w', Below w5.heap.size w5 w' → (w'.cell? ⟨w.heap.size, 0, none⟩ = some (.string ke) ∧ w'.cell? ⟨w.heap.size, 1, none⟩ = some (.string ve) ∧ w'.cell? ⟨w.heap.size, 2, none⟩ = some (.int .i64 se) ∧ w'.cell? ⟨w.heap.size, 3, none⟩ = some (.bool ge)) ∧ w'.cell? ⟨lk, 1, none⟩ = some (.int .i64 ((c1 : Nat) : Int)) ∧ Below w5.heap.size w5 w' := fun w' hb => by
        obtain ⟨q0, q1, q2, q3⟩ := four_cells (block_below' X5.out hb)
        exact ⟨⟨q0, q1, q2, q3⟩, Lib.cell_of_heap (block_below' L5.out hb) 1, hb⟩
      have HKSH : Hid (∀ w', Below w5.heap.size w5 w' → (w'.cell? ⟨w.heap.size, 0, none⟩ = some (.string ke) ∧ w'.cell? ⟨w.heap.size, 1, none⟩ = some (.string ve) ∧ w'.cell? ⟨w.heap.size, 2, none⟩ = some (.int .i64 se) ∧ w'.cell? ⟨w.heap.size, 3, none⟩ = some (.bool ge)) ∧ w'.cell? ⟨lk, 1, none⟩ = some (.int .i64 ((c1 : Nat) : Int)) ∧ Below w5.heap.size w5 w') := HKS
      have HAL : Hid ((w5.cell? ⟨w.heap.size, 0, none⟩ = some (.string ke) ∧ w5.cell? ⟨w.heap.size, 1, none⟩ = some (.string ve) ∧ w5.cell? ⟨w.heap.size, 2, none⟩ = some (.int .i64 se) ∧ w5.cell? ⟨w.heap.size, 3, none⟩ = some (.bool ge)) ∧ w5.cell? ⟨lk, 1, none⟩ = some (.int .i64 ((c1 : Nat) : Int)) ∧ Below w5.heap.size w5 w5) := HKS w5 (Below.refl _ _)
      clear HKS
      have HHT : ∀ w', ((w'.cell? ⟨w.heap.size, 0, none⟩ = some (.string ke) ∧ w'.cell? ⟨w.heap.size, 1, none⟩ = some (.string ve) ∧ w'.cell? ⟨w.heap.size, 2, none⟩ = some (.int .i64 se) ∧ w'.cell? ⟨w.heap.size, 3, none⟩ = some (.bool ge)) ∧ w'.cell? ⟨lk, 1, none⟩ = some (.int .i64 ((c1 : Nat) : Int)) ∧ Below w5.heap.size w5 w') → Calls Tryd.prog 41 #[.int .i64 (c1 : Int)] w' fun e w'' => (∃ k : Nat, 1 ≤ k ∧ k ≤ 12 ∧ e = .returned (.int .i64 (k : Int))) ∧ w'' = w' := fun w' hS => height_any c1 w' ((HLA.out.kept H5.out HB2.out.1).below hS.2.2 (by have h1 := H5.out.size; have h2 := HLA.out.size; omega)) (by have h1 := HC1.out; have h2 := HS.out.pos; omega) (by have h1 := HC1.out; have h2 := HLN.out; omega)
      go_region_held3 (fun w' => (w'.cell? ⟨w.heap.size, 0, none⟩ = some (.string ke) ∧ w'.cell? ⟨w.heap.size, 1, none⟩ = some (.string ve) ∧ w'.cell? ⟨w.heap.size, 2, none⟩ = some (.int .i64 se) ∧ w'.cell? ⟨w.heap.size, 3, none⟩ = some (.bool ge)) ∧ w'.cell? ⟨lk, 1, none⟩ = some (.int .i64 ((c1 : Nat) : Int)) ∧ Below w5.heap.size w5 w')
        (with_reducible first | exact HAL.out | exact HKSH.out _ (Below.refl _ _).drew | exact HKSH.out _ (below_alloc _ _).drew | exact HKSH.out _ (below_alloc _ _) | exact HKSH.out _ (below_bt (below_alloc _ _) (below_alloc _ _)).drew | exact HKSH.out _ (below_bt (below_alloc _ _) (below_alloc _ _)) | exact HKSH.out _ (below_dw (by assumption)) | assumption)
        (first
          | (go_at_call 41; refine (HHT _ (by assumption)).mono ?_; rintro e w7 ⟨⟨k, hk1, hk2, rfl⟩, rfl⟩; have hmk := run_makeP k (by omega))
          | fail)
      rename_i hh
      have W6B : Below w5.heap.size w5 (((w5.alloc (.cells (zP k) 54)).alloc (.cells #[.string ke, .string ve, .int .i64 se, .bool ge, .slice (some ⟨w5.heap.size, 0, none⟩) k k] 58)).drew) := hh.2.2
      have HNE : Hid (∀ p, p < al.length → (al.getD p zN).bb ≠ w5.heap.size) := fun p hp e => by
        obtain ⟨cs, q1, _⟩ := P5.out p hp
        have := lt_heap q1
        omega
      have HNE2 : Hid (∀ p, p < al.length → (al.getD p zN).nb ≠ w5.heap.size + 1) := fun p hp e => by
        have := lt_heap (N5.out p hp)
        omega
      have HGB : Hid (∀ k, w5.heap.size ≤ k → Z k) := fun k hk => HB2.out.2 k (Nat.le_trans H5.out.size hk)
      have HI : Hid (InP Z lk g al f (agA b) ⟨⟨ke, ve, se, ge⟩, w5.heap.size + 1, w5.heap.size, k⟩ 0 (((w5.alloc (.cells (zP k) 54)).alloc (.cells #[.string ke, .string ve, .int .i64 se, .bool ge, .slice (some ⟨w5.heap.size, 0, none⟩) k k] 58)).drew)) := by
        refine ⟨?_, block_below' A5.out W6B, fun p hp => block_below' (N5.out p hp) W6B, fun p hp => ?_, heap_two _ _ _, zP k, block_below' (heap_alloc_new _ _) (below_alloc _ _).drew, zP_size k, fun h hh => by omega⟩
        · have e := block_below' L5.out W6B
          rw [HC1.out] at e
          exact e
        · obtain ⟨cs, q1, q2, q3⟩ := P5.out p hp
          exact ⟨cs, block_below' q1 W6B, q2, fun h hh => by rw [q3 h hh, if_neg (by omega)]⟩
      have HK6 : Hid (Kept Z w (((w5.alloc (.cells (zP k) 54)).alloc (.cells #[.string ke, .string ve, .int .i64 se, .bool ge, .slice (some ⟨w5.heap.size, 0, none⟩) k k] 58)).drew)) := H5.out.trans (kept_below W6B)
      have HKK : Hid (1 ≤ k ∧ k ≤ 12) := ⟨hk1, hk2⟩
      have hkI : (1 : Int) ≤ (k : Int) := by omega
      have hkI2 : (k : Int) ≤ 12 := by omega
      clear hh W6B H5 X5 A5 L5 N5 P5 HKSH HAL HHT hmk hk1 hk2
      generalize World.drew _ = w6 at HI HK6 ⊢
      generalize w5.heap.size = gb at *
      have HIS : ∀ (j : Nat) (wr : World), InP Z lk g al f (agA b) ⟨⟨ke, ve, se, ge⟩, gb + 1, gb, k⟩ j wr → wr.cell? ⟨gb + 1, 4, none⟩ = some (.slice (some ⟨gb, 0, none⟩) k k) := fun j wr h => Lib.cell_of_heap h.new 4
      have HISH : Hid (∀ (j : Nat) (wr : World), InP Z lk g al f (agA b) ⟨⟨ke, ve, se, ge⟩, gb + 1, gb, k⟩ j wr → wr.cell? ⟨gb + 1, 4, none⟩ = some (.slice (some ⟨gb, 0, none⟩) k k)) := HIS
      have e4 := HIS 0 w6 HI.out
      clear HIS
      go_wp2
      go_loopw [55] (fun i wr => ∃ j : Nat, j ≤ k ∧ i = .int .i64 (j : Int) ∧ InP Z lk g al f (agA b) ⟨⟨ke, ve, se, ge⟩, gb + 1, gb, k⟩ j wr ∧ Kept Z w wr) (fun i _ => k - (intOf i).toNat)
      case atStart => exact ⟨0, by omega, rfl, HI.out, HK6.out⟩
      case round =>
        obtain ⟨j, hj, rfl, hin, hkp⟩ := hrel
        have HIN : Hid (InP Z lk g al f (agA b) ⟨⟨ke, ve, se, ge⟩, gb + 1, gb, k⟩ j wr) := hin
        have HKP : Hid (Kept Z w wr) := hkp
        clear hin hkp e4
        by_cases hjk : j < k
        · have hjI : (j : Int) < (k : Int) := by omega
          have hjI2 : (0 : Int) ≤ (j : Int) := by omega
          have hjI3 : (j : Int) < 12 := by omega
          have kw0 : IntKind.i64.wrap (j : Int) = (j : Int) := by rw [IntKind.wrap_i64]; omega
          have HJ : Hid (j < k) := hjk
          have hj12 : j < 12 := by have := HKK.out; omega
          have ha := HF.out j hj12
          obtain ⟨np, hnp⟩ : ∃ np, al.getD (f j) zN = np := ⟨_, rfl⟩
          have hnb : np.nb = b j := by rw [← hnp]; exact HBF.out j
          have q4 : wr.cell? ⟨gb + 1, 4, none⟩ = some (.slice (some ⟨gb, 0, none⟩) k k) := HISH.out j wr HIN.out
          have qa : wr.cell? ⟨g, j, none⟩ = some (.pointer (some ⟨b j, 0, none⟩)) := (cell_of_row wr g j _ _ _ HIN.out.ab).trans (agA_at hj12)
          have qn : wr.cell? ⟨b j, 4, none⟩ = some (.slice (some ⟨np.bb, 0, none⟩) np.ht np.ht) := by
            have e := HIN.out.nod (f j) ha.lt
            rw [hnp, hnb] at e
            exact Lib.cell_of_heap e 4
          have HNX2 : Hid ((al.getD (f j) zN).bb = np.bb) := by show _ = _; rw [hnp]
          have qc : wr.cell? ⟨np.bb, j, none⟩ = some (.pointer (adO (nxN j (al.drop (f j + 1))))) := by
            obtain ⟨cs, c1, c2, c3⟩ := HIN.out.nxt (f j) ha.lt
            rw [← hnp, cell_of_row wr _ j cs _ _ c1, c3 j ha.high, if_neg (by omega), ptO_eq]
          have hti : (j : Int) < ((np.ht : Nat) : Int) := by have := ha.high; rw [hnp] at this; omega
          obtain ⟨vo, qv⟩ : ∃ vo, wr.cell? ⟨gb, j, none⟩ = some vo := by
            obtain ⟨cs, c1, c2, _⟩ := HIN.out.newb
            exact ⟨cs[j]'(by rw [c2]; exact hjk), (cell_of_row wr gb j cs _ _ c1).trans (Array.getElem?_eq_getElem _)⟩
          have qf : wr.frozen? ⟨gb, j, none⟩ = false := by
            obtain ⟨cs, c1, _⟩ := HIN.out.newb
            exact frozen_row c1 j
          have HST := HIN.out.step (k := j) hjk ha.lt ha.high HS.out.apart HNE.out
          rw [ptO_eq, hnp] at HST
          have HKT : Hid (∀ vv vu : Value, Kept Z w ((wr.setCell ⟨gb, j, none⟩ vv).setCell ⟨np.bb, j, none⟩ vu)) := fun vv vu => by
            obtain ⟨cs, c1, _⟩ := HIN.out.newb
            obtain ⟨cs2, c3, _⟩ := HIN.out.nxt (f j) ha.lt
            rw [hnp] at c3
            refine HKP.out.trans ((kept_set c1 (.inl rfl) (HGB.out gb (Nat.le_refl _)) vv).trans (kept_set (set_num c3 (by rw [← hnp]; exact HNE.out _ ha.lt) vv) (.inl rfl) ?_ vu))
            have := (HS.out.nxt (f j) ha.lt).1
            rw [hnp] at this
            exact this
          have hne : np.bb ≠ gb := by rw [← hnp]; exact HNE.out _ ha.lt
          obtain ⟨qo, hqo⟩ : ∃ qo, adO (nxN j (al.drop (f j + 1))) = qo := ⟨_, rfl⟩
          rw [hqo] at HST qc
          have HSTH : Hid (InP Z lk g al f (agA b) ⟨⟨ke, ve, se, ge⟩, gb + 1, gb, k⟩ (j + 1) ((wr.setCell ⟨gb, j, none⟩ (.pointer qo)).setCell ⟨np.bb, j, none⟩ (.pointer (some ⟨gb + 1, 0, none⟩)))) := HST
          have qc1 : (wr.setCell ⟨gb, j, none⟩ (.pointer qo)).cell? ⟨np.bb, j, none⟩ = some (.pointer qo) := (World.cell?_of_block (Below.heap_setCell wr ⟨gb, j, none⟩ _ np.bb hne)).trans qc
          have qf1 : (wr.setCell ⟨gb, j, none⟩ (.pointer qo)).frozen? ⟨np.bb, j, none⟩ = false := by
            obtain ⟨cs2, c3, _⟩ := HIN.out.nxt (f j) ha.lt
            rw [hnp] at c3
            exact frozen_row (set_num c3 hne _) j
          have qa1 : (wr.setCell ⟨gb, j, none⟩ (.pointer qo)).cell? ⟨g, j, none⟩ = some (.pointer (some ⟨b j, 0, none⟩)) := by
            obtain ⟨cs, c1, _⟩ := HIN.out.newb
            exact (cell_of_row _ g j _ _ _ (set_typ c1 HIN.out.ab (by decide) _)).trans (agA_at hj12)
          have qn1 : (wr.setCell ⟨gb, j, none⟩ (.pointer qo)).cell? ⟨b j, 4, none⟩ = some (.slice (some ⟨np.bb, 0, none⟩) np.ht np.ht) := by
            obtain ⟨cs, c1, _⟩ := HIN.out.newb
            have e := HIN.out.nod (f j) ha.lt
            rw [hnp, hnb] at e
            exact Lib.cell_of_heap (set_typ c1 e (by decide) _) 4
          clear HST hqo hne hnb hnp ha hj12 hjk hj
          obtain ⟨nne, nnb, nbb, nht⟩ := np
          simp only at *
          go_wp2
          go_region
          all_goals
            go_wp2
            go_roundw
            case rel => exact ⟨j + 1, HJ.out, by go_num, HSTH.out.drew, (HKT.out _ _).drew⟩
            case measure => have := HJ.out; simp [intOf]; omega
        · have hjI : (k : Int) ≤ (j : Int) := by omega
          have HJ : Hid (j = k) := by show _ = _; omega
          clear hjk hj
          go_wp2
          go_ret
          have hin := HIN.out
          rw [HJ.out] at hin
          have hE := HRE.out
          unfold putR at hE
          rw [if_neg HNS.out, if_neg (by rw [eosN_len, HC.out]; have := HCM.out; omega)] at hE
          refine ⟨by rw [← (Prod.mk.inj hE).2]; rfl, ⟨_, hin.done (x := ⟨ke, ve, se, ge⟩) HS.out HF.out HKK.out.1 HKK.out.2 ⟨HGB.out (gb + 1) (Nat.le_succ _), HGB.out gb (Nat.le_refl _)⟩ HNE.out HNE2.out, ?_⟩, HKP.out⟩
          rw [ents_ins (x := ⟨ke, ve, se, ge⟩) rfl (HF.out 0 (by omega)) (fun q hq => (HS.out.high q hq).1)]
          exact (Prod.mk.inj hE).1
  | some m =>
    rw [hnx] at cn
    simp only [ptO_eq, adO] at cn
    have HNX : Hid (al[f 0 + 1]? = some m) := hnx
    clear hnx
    have hlt : f 0 + 1 < al.length := (List.getElem?_eq_some_iff.1 HNX.out).1
    have hm : al.getD (f 0 + 1) zN = m := by rw [List.getD_eq_getElem?_getD, HNX.out]; rfl
    obtain ⟨y0, y1, y2, y3, _⟩ := HO.out.sk.cells hlt hm
    unfold agA at y0 y1 y2 y3
    obtain ⟨r, hr⟩ : ∃ r, sameE m.ent ⟨ke, ve, se, ge⟩ = r := ⟨_, rfl⟩
    have HSA := fun w' => same_any m.ent ⟨ke, ve, se, ge⟩ w' r hr
    have HSM : Hid ((placeE (eosN al) ⟨ke, ve, se, ge⟩ < (eosN al).length ∧ sameE ((eosN al).getD (placeE (eosN al) ⟨ke, ve, se, ge⟩) zeroE) ⟨ke, ve, se, ge⟩ = true) ↔ r = true) := by
      show _ ↔ _
      rw [HPL.out, eosN_at hlt, hm, hr, eosN_len]
      exact ⟨fun h => h.2, fun h => ⟨by omega, h⟩⟩
    clear hlt hm hr
    obtain ⟨⟨kx, vx, sx, gx⟩, mb, mbb, mht⟩ := m
    simp only at y0 y1 y2 y3 cn
    simp only [entV_def] at HSA
    have HKS : ∀ w', Below (w2.alloc (.cells #[.pointer (some ⟨b 0, 0, none⟩), .pointer (some ⟨b 1, 0, none⟩), .pointer (some ⟨b 2, 0, none⟩), .pointer (some ⟨b 3, 0, none⟩), .pointer (some ⟨b 4, 0, none⟩), .pointer (some ⟨b 5, 0, none⟩), .pointer (some ⟨b 6, 0, none⟩), .pointer (some ⟨b 7, 0, none⟩), .pointer (some ⟨b 8, 0, none⟩), .pointer (some ⟨b 9, 0, none⟩), .pointer (some ⟨b 10, 0, none⟩), .pointer (some ⟨b 11, 0, none⟩)] 69)).heap.size (w2.alloc (.cells #[.pointer (some ⟨b 0, 0, none⟩), .pointer (some ⟨b 1, 0, none⟩), .pointer (some ⟨b 2, 0, none⟩), .pointer (some ⟨b 3, 0, none⟩), .pointer (some ⟨b 4, 0, none⟩), .pointer (some ⟨b 5, 0, none⟩), .pointer (some ⟨b 6, 0, none⟩), .pointer (some ⟨b 7, 0, none⟩), .pointer (some ⟨b 8, 0, none⟩), .pointer (some ⟨b 9, 0, none⟩), .pointer (some ⟨b 10, 0, none⟩), .pointer (some ⟨b 11, 0, none⟩)] 69)) w' → (w'.cell? ⟨mb, 0, none⟩ = some (.string kx) ∧ w'.cell? ⟨mb, 1, none⟩ = some (.string vx) ∧ w'.cell? ⟨mb, 2, none⟩ = some (.int .i64 sx) ∧ w'.cell? ⟨mb, 3, none⟩ = some (.bool gx)) ∧ (w'.cell? ⟨w.heap.size, 0, none⟩ = some (.string ke) ∧ w'.cell? ⟨w.heap.size, 1, none⟩ = some (.string ve) ∧ w'.cell? ⟨w.heap.size, 2, none⟩ = some (.int .i64 se) ∧ w'.cell? ⟨w.heap.size, 3, none⟩ = some (.bool ge)) ∧ Below (w2.alloc (.cells #[.pointer (some ⟨b 0, 0, none⟩), .pointer (some ⟨b 1, 0, none⟩), .pointer (some ⟨b 2, 0, none⟩), .pointer (some ⟨b 3, 0, none⟩), .pointer (some ⟨b 4, 0, none⟩), .pointer (some ⟨b 5, 0, none⟩), .pointer (some ⟨b 6, 0, none⟩), .pointer (some ⟨b 7, 0, none⟩), .pointer (some ⟨b 8, 0, none⟩), .pointer (some ⟨b 9, 0, none⟩), .pointer (some ⟨b 10, 0, none⟩), .pointer (some ⟨b 11, 0, none⟩)] 69)).heap.size (w2.alloc (.cells #[.pointer (some ⟨b 0, 0, none⟩), .pointer (some ⟨b 1, 0, none⟩), .pointer (some ⟨b 2, 0, none⟩), .pointer (some ⟨b 3, 0, none⟩), .pointer (some ⟨b 4, 0, none⟩), .pointer (some ⟨b 5, 0, none⟩), .pointer (some ⟨b 6, 0, none⟩), .pointer (some ⟨b 7, 0, none⟩), .pointer (some ⟨b 8, 0, none⟩), .pointer (some ⟨b 9, 0, none⟩), .pointer (some ⟨b 10, 0, none⟩), .pointer (some ⟨b 11, 0, none⟩)] 69)) w' := fun w' hb => ⟨⟨(hb.cell (World.block_lt_of_cell? _ _ y0)).trans y0, (hb.cell (World.block_lt_of_cell? _ _ y1)).trans y1, (hb.cell (World.block_lt_of_cell? _ _ y2)).trans y2, (hb.cell (World.block_lt_of_cell? _ _ y3)).trans y3⟩, ⟨(hb.cell (World.block_lt_of_cell? _ _ x0)).trans x0, (hb.cell (World.block_lt_of_cell? _ _ x1)).trans x1, (hb.cell (World.block_lt_of_cell? _ _ x2)).trans x2, (hb.cell (World.block_lt_of_cell? _ _ x3)).trans x3⟩, hb⟩
    have HKSH : Hid (∀ w', Below (w2.alloc (.cells #[.pointer (some ⟨b 0, 0, none⟩), .pointer (some ⟨b 1, 0, none⟩), .pointer (some ⟨b 2, 0, none⟩), .pointer (some ⟨b 3, 0, none⟩), .pointer (some ⟨b 4, 0, none⟩), .pointer (some ⟨b 5, 0, none⟩), .pointer (some ⟨b 6, 0, none⟩), .pointer (some ⟨b 7, 0, none⟩), .pointer (some ⟨b 8, 0, none⟩), .pointer (some ⟨b 9, 0, none⟩), .pointer (some ⟨b 10, 0, none⟩), .pointer (some ⟨b 11, 0, none⟩)] 69)).heap.size (w2.alloc (.cells #[.pointer (some ⟨b 0, 0, none⟩), .pointer (some ⟨b 1, 0, none⟩), .pointer (some ⟨b 2, 0, none⟩), .pointer (some ⟨b 3, 0, none⟩), .pointer (some ⟨b 4, 0, none⟩), .pointer (some ⟨b 5, 0, none⟩), .pointer (some ⟨b 6, 0, none⟩), .pointer (some ⟨b 7, 0, none⟩), .pointer (some ⟨b 8, 0, none⟩), .pointer (some ⟨b 9, 0, none⟩), .pointer (some ⟨b 10, 0, none⟩), .pointer (some ⟨b 11, 0, none⟩)] 69)) w' → (w'.cell? ⟨mb, 0, none⟩ = some (.string kx) ∧ w'.cell? ⟨mb, 1, none⟩ = some (.string vx) ∧ w'.cell? ⟨mb, 2, none⟩ = some (.int .i64 sx) ∧ w'.cell? ⟨mb, 3, none⟩ = some (.bool gx)) ∧ (w'.cell? ⟨w.heap.size, 0, none⟩ = some (.string ke) ∧ w'.cell? ⟨w.heap.size, 1, none⟩ = some (.string ve) ∧ w'.cell? ⟨w.heap.size, 2, none⟩ = some (.int .i64 se) ∧ w'.cell? ⟨w.heap.size, 3, none⟩ = some (.bool ge)) ∧ Below (w2.alloc (.cells #[.pointer (some ⟨b 0, 0, none⟩), .pointer (some ⟨b 1, 0, none⟩), .pointer (some ⟨b 2, 0, none⟩), .pointer (some ⟨b 3, 0, none⟩), .pointer (some ⟨b 4, 0, none⟩), .pointer (some ⟨b 5, 0, none⟩), .pointer (some ⟨b 6, 0, none⟩), .pointer (some ⟨b 7, 0, none⟩), .pointer (some ⟨b 8, 0, none⟩), .pointer (some ⟨b 9, 0, none⟩), .pointer (some ⟨b 10, 0, none⟩), .pointer (some ⟨b 11, 0, none⟩)] 69)).heap.size (w2.alloc (.cells #[.pointer (some ⟨b 0, 0, none⟩), .pointer (some ⟨b 1, 0, none⟩), .pointer (some ⟨b 2, 0, none⟩), .pointer (some ⟨b 3, 0, none⟩), .pointer (some ⟨b 4, 0, none⟩), .pointer (some ⟨b 5, 0, none⟩), .pointer (some ⟨b 6, 0, none⟩), .pointer (some ⟨b 7, 0, none⟩), .pointer (some ⟨b 8, 0, none⟩), .pointer (some ⟨b 9, 0, none⟩), .pointer (some ⟨b 10, 0, none⟩), .pointer (some ⟨b 11, 0, none⟩)] 69)) w') := HKS
    have HAL : Hid (((w2.alloc (.cells #[.pointer (some ⟨b 0, 0, none⟩), .pointer (some ⟨b 1, 0, none⟩), .pointer (some ⟨b 2, 0, none⟩), .pointer (some ⟨b 3, 0, none⟩), .pointer (some ⟨b 4, 0, none⟩), .pointer (some ⟨b 5, 0, none⟩), .pointer (some ⟨b 6, 0, none⟩), .pointer (some ⟨b 7, 0, none⟩), .pointer (some ⟨b 8, 0, none⟩), .pointer (some ⟨b 9, 0, none⟩), .pointer (some ⟨b 10, 0, none⟩), .pointer (some ⟨b 11, 0, none⟩)] 69)).cell? ⟨mb, 0, none⟩ = some (.string kx) ∧ (w2.alloc (.cells #[.pointer (some ⟨b 0, 0, none⟩), .pointer (some ⟨b 1, 0, none⟩), .pointer (some ⟨b 2, 0, none⟩), .pointer (some ⟨b 3, 0, none⟩), .pointer (some ⟨b 4, 0, none⟩), .pointer (some ⟨b 5, 0, none⟩), .pointer (some ⟨b 6, 0, none⟩), .pointer (some ⟨b 7, 0, none⟩), .pointer (some ⟨b 8, 0, none⟩), .pointer (some ⟨b 9, 0, none⟩), .pointer (some ⟨b 10, 0, none⟩), .pointer (some ⟨b 11, 0, none⟩)] 69)).cell? ⟨mb, 1, none⟩ = some (.string vx) ∧ (w2.alloc (.cells #[.pointer (some ⟨b 0, 0, none⟩), .pointer (some ⟨b 1, 0, none⟩), .pointer (some ⟨b 2, 0, none⟩), .pointer (some ⟨b 3, 0, none⟩), .pointer (some ⟨b 4, 0, none⟩), .pointer (some ⟨b 5, 0, none⟩), .pointer (some ⟨b 6, 0, none⟩), .pointer (some ⟨b 7, 0, none⟩), .pointer (some ⟨b 8, 0, none⟩), .pointer (some ⟨b 9, 0, none⟩), .pointer (some ⟨b 10, 0, none⟩), .pointer (some ⟨b 11, 0, none⟩)] 69)).cell? ⟨mb, 2, none⟩ = some (.int .i64 sx) ∧ (w2.alloc (.cells #[.pointer (some ⟨b 0, 0, none⟩), .pointer (some ⟨b 1, 0, none⟩), .pointer (some ⟨b 2, 0, none⟩), .pointer (some ⟨b 3, 0, none⟩), .pointer (some ⟨b 4, 0, none⟩), .pointer (some ⟨b 5, 0, none⟩), .pointer (some ⟨b 6, 0, none⟩), .pointer (some ⟨b 7, 0, none⟩), .pointer (some ⟨b 8, 0, none⟩), .pointer (some ⟨b 9, 0, none⟩), .pointer (some ⟨b 10, 0, none⟩), .pointer (some ⟨b 11, 0, none⟩)] 69)).cell? ⟨mb, 3, none⟩ = some (.bool gx)) ∧ ((w2.alloc (.cells #[.pointer (some ⟨b 0, 0, none⟩), .pointer (some ⟨b 1, 0, none⟩), .pointer (some ⟨b 2, 0, none⟩), .pointer (some ⟨b 3, 0, none⟩), .pointer (some ⟨b 4, 0, none⟩), .pointer (some ⟨b 5, 0, none⟩), .pointer (some ⟨b 6, 0, none⟩), .pointer (some ⟨b 7, 0, none⟩), .pointer (some ⟨b 8, 0, none⟩), .pointer (some ⟨b 9, 0, none⟩), .pointer (some ⟨b 10, 0, none⟩), .pointer (some ⟨b 11, 0, none⟩)] 69)).cell? ⟨w.heap.size, 0, none⟩ = some (.string ke) ∧ (w2.alloc (.cells #[.pointer (some ⟨b 0, 0, none⟩), .pointer (some ⟨b 1, 0, none⟩), .pointer (some ⟨b 2, 0, none⟩), .pointer (some ⟨b 3, 0, none⟩), .pointer (some ⟨b 4, 0, none⟩), .pointer (some ⟨b 5, 0, none⟩), .pointer (some ⟨b 6, 0, none⟩), .pointer (some ⟨b 7, 0, none⟩), .pointer (some ⟨b 8, 0, none⟩), .pointer (some ⟨b 9, 0, none⟩), .pointer (some ⟨b 10, 0, none⟩), .pointer (some ⟨b 11, 0, none⟩)] 69)).cell? ⟨w.heap.size, 1, none⟩ = some (.string ve) ∧ (w2.alloc (.cells #[.pointer (some ⟨b 0, 0, none⟩), .pointer (some ⟨b 1, 0, none⟩), .pointer (some ⟨b 2, 0, none⟩), .pointer (some ⟨b 3, 0, none⟩), .pointer (some ⟨b 4, 0, none⟩), .pointer (some ⟨b 5, 0, none⟩), .pointer (some ⟨b 6, 0, none⟩), .pointer (some ⟨b 7, 0, none⟩), .pointer (some ⟨b 8, 0, none⟩), .pointer (some ⟨b 9, 0, none⟩), .pointer (some ⟨b 10, 0, none⟩), .pointer (some ⟨b 11, 0, none⟩)] 69)).cell? ⟨w.heap.size, 2, none⟩ = some (.int .i64 se) ∧ (w2.alloc (.cells #[.pointer (some ⟨b 0, 0, none⟩), .pointer (some ⟨b 1, 0, none⟩), .pointer (some ⟨b 2, 0, none⟩), .pointer (some ⟨b 3, 0, none⟩), .pointer (some ⟨b 4, 0, none⟩), .pointer (some ⟨b 5, 0, none⟩), .pointer (some ⟨b 6, 0, none⟩), .pointer (some ⟨b 7, 0, none⟩), .pointer (some ⟨b 8, 0, none⟩), .pointer (some ⟨b 9, 0, none⟩), .pointer (some ⟨b 10, 0, none⟩), .pointer (some ⟨b 11, 0, none⟩)] 69)).cell? ⟨w.heap.size, 3, none⟩ = some (.bool ge)) ∧ Below (w2.alloc (.cells #[.pointer (some ⟨b 0, 0, none⟩), .pointer (some ⟨b 1, 0, none⟩), .pointer (some ⟨b 2, 0, none⟩), .pointer (some ⟨b 3, 0, none⟩), .pointer (some ⟨b 4, 0, none⟩), .pointer (some ⟨b 5, 0, none⟩), .pointer (some ⟨b 6, 0, none⟩), .pointer (some ⟨b 7, 0, none⟩), .pointer (some ⟨b 8, 0, none⟩), .pointer (some ⟨b 9, 0, none⟩), .pointer (some ⟨b 10, 0, none⟩), .pointer (some ⟨b 11, 0, none⟩)] 69)).heap.size (w2.alloc (.cells #[.pointer (some ⟨b 0, 0, none⟩), .pointer (some ⟨b 1, 0, none⟩), .pointer (some ⟨b 2, 0, none⟩), .pointer (some ⟨b 3, 0, none⟩), .pointer (some ⟨b 4, 0, none⟩), .pointer (some ⟨b 5, 0, none⟩), .pointer (some ⟨b 6, 0, none⟩), .pointer (some ⟨b 7, 0, none⟩), .pointer (some ⟨b 8, 0, none⟩), .pointer (some ⟨b 9, 0, none⟩), .pointer (some ⟨b 10, 0, none⟩), .pointer (some ⟨b 11, 0, none⟩)] 69)) (w2.alloc (.cells #[.pointer (some ⟨b 0, 0, none⟩), .pointer (some ⟨b 1, 0, none⟩), .pointer (some ⟨b 2, 0, none⟩), .pointer (some ⟨b 3, 0, none⟩), .pointer (some ⟨b 4, 0, none⟩), .pointer (some ⟨b 5, 0, none⟩), .pointer (some ⟨b 6, 0, none⟩), .pointer (some ⟨b 7, 0, none⟩), .pointer (some ⟨b 8, 0, none⟩), .pointer (some ⟨b 9, 0, none⟩), .pointer (some ⟨b 10, 0, none⟩), .pointer (some ⟨b 11, 0, none⟩)] 69))) := HKS _ (Below.refl _ _)
    clear HKS
    clear x0 x1 x2 x3 y0 y1 y2 y3
    go_wp2
    go_region_held3 (fun w' => (w'.cell? ⟨mb, 0, none⟩ = some (.string kx) ∧ w'.cell? ⟨mb, 1, none⟩ = some (.string vx) ∧ w'.cell? ⟨mb, 2, none⟩ = some (.int .i64 sx) ∧ w'.cell? ⟨mb, 3, none⟩ = some (.bool gx)) ∧ (w'.cell? ⟨w.heap.size, 0, none⟩ = some (.string ke) ∧ w'.cell? ⟨w.heap.size, 1, none⟩ = some (.string ve) ∧ w'.cell? ⟨w.heap.size, 2, none⟩ = some (.int .i64 se) ∧ w'.cell? ⟨w.heap.size, 3, none⟩ = some (.bool ge)) ∧ Below (w2.alloc (.cells #[.pointer (some ⟨b 0, 0, none⟩), .pointer (some ⟨b 1, 0, none⟩), .pointer (some ⟨b 2, 0, none⟩), .pointer (some ⟨b 3, 0, none⟩), .pointer (some ⟨b 4, 0, none⟩), .pointer (some ⟨b 5, 0, none⟩), .pointer (some ⟨b 6, 0, none⟩), .pointer (some ⟨b 7, 0, none⟩), .pointer (some ⟨b 8, 0, none⟩), .pointer (some ⟨b 9, 0, none⟩), .pointer (some ⟨b 10, 0, none⟩), .pointer (some ⟨b 11, 0, none⟩)] 69)).heap.size (w2.alloc (.cells #[.pointer (some ⟨b 0, 0, none⟩), .pointer (some ⟨b 1, 0, none⟩), .pointer (some ⟨b 2, 0, none⟩), .pointer (some ⟨b 3, 0, none⟩), .pointer (some ⟨b 4, 0, none⟩), .pointer (some ⟨b 5, 0, none⟩), .pointer (some ⟨b 6, 0, none⟩), .pointer (some ⟨b 7, 0, none⟩), .pointer (some ⟨b 8, 0, none⟩), .pointer (some ⟨b 9, 0, none⟩), .pointer (some ⟨b 10, 0, none⟩), .pointer (some ⟨b 11, 0, none⟩)] 69)) w')
      (with_reducible first | exact HAL.out | exact HKSH.out _ (Below.refl _ _).drew | exact HKSH.out _ (below_dw (by assumption)) | assumption)
      (first
        | (go_at_call 24; refine (HSA _).mono ?_; rintro e w4 ⟨rfl, hb4⟩)
        | fail)
    rename_i hh
    have HOz : Hid (OnP w Z lk w2.heap.size al b ⟨ke, ve, se, ge⟩ w4) := HO.out.next hh.2.2
    clear hh hb4 HKSH HAL HSA d4 cn HO
    generalize w2.heap.size = g at *
    cases r with
    | true =>
      have HE : Hid (l' = eosN al ∧ E = 100) := by
        have h := HRE.out
        unfold putR at h
        rw [if_pos (HSM.out.2 rfl)] at h
        exact ⟨(Prod.mk.inj h).1.symm, (Prod.mk.inj h).2.symm⟩
      go_wp2
      go_ret
      exact ⟨by rw [HE.out.2]; rfl, ⟨al, HOz.out.sk, HE.out.1.symm⟩, kept_below HOz.out.bel⟩
    | false =>
      have HNS : Hid (¬ (placeE (eosN al) ⟨ke, ve, se, ge⟩ < (eosN al).length ∧ sameE ((eosN al).getD (placeE (eosN al) ⟨ke, ve, se, ge⟩) zeroE) ⟨ke, ve, se, ge⟩ = true)) := fun h => by have := HSM.out.1 h; cases this
      clear HSM
      generalize w4 = wz at *
      have hl := HOz.out.sk.links
      have l1 : wz.cell? ⟨lk, 1, none⟩ = some (.int .i64 ((al.length - 1 : Nat) : Int)) := Lib.cell_of_heap hl 1
      have l1f := frozen_row hl 1
      obtain ⟨c, hc⟩ : ∃ c, al.length - 1 = c := ⟨_, rfl⟩
      rw [hc] at l1
      have HC : Hid (al.length - 1 = c) := hc
      clear hl hc
      by_cases hcm : c = 4096
      · have HE : Hid (l' = eosN al ∧ E = 4) := by
          have h := HRE.out
          unfold putR at h
          rw [if_neg HNS.out, if_pos (by rw [eosN_len, HC.out]; omega)] at h
          exact ⟨(Prod.mk.inj h).1.symm, (Prod.mk.inj h).2.symm⟩
        subst hcm
        go_wp2
        go_ret
        exact ⟨by rw [HE.out.2]; rfl, ⟨al, HOz.out.sk, HE.out.1.symm⟩, kept_below HOz.out.bel⟩
      · have HCM : Hid (c < 4096) := by have h1 := HLN.out; have h2 := HC.out; show _ < _; omega
        have hcI : ((c : Int) == 4096) = false := by simp; omega
        have hcI2 : (c : Int) < 4096 := by have := HCM.out; omega
        have hcI3 : (0 : Int) ≤ (c : Int) := by omega
        clear hcm
        obtain ⟨c1, hc1⟩ : ∃ c1 : Nat, (c : Int) + 1 = (c1 : Int) := ⟨c + 1, by omega⟩
        have HC1 : Hid (c1 = al.length) := by have h1 := HC.out; have h2 := HOz.out.sk.pos; show _ = _; omega
        have HCW : Hid ((c : Int) + 1 = (c1 : Int)) := hc1
        clear hc1
        go_wp2
        rw [HCW.out]
        have H5 : Hid (Kept Z w (wz.setCell ⟨lk, 1, none⟩ (.int .i64 (c1 : Int)))) := (kept_below HOz.out.bel).trans (kept_set HOz.out.sk.links (.inr rfl) HOz.out.sk.lkb _)
        have X5 : Hid ((wz.setCell ⟨lk, 1, none⟩ (.int .i64 (c1 : Int))).heap[w.heap.size]? = some (.cells #[.string ke, .string ve, .int .i64 se, .bool ge] 23 (0, 0))) := set_typ HOz.out.sk.links HOz.out.xb (by decide) _
        have A5 : Hid ((wz.setCell ⟨lk, 1, none⟩ (.int .i64 (c1 : Int))).heap[g]? = some (.cells (agA b) 69 (0, 0))) := set_typ HOz.out.sk.links HOz.out.ab (by decide) _
        have L5 : Hid ((wz.setCell ⟨lk, 1, none⟩ (.int .i64 (c1 : Int))).heap[lk]? = some (.cells #[ptN (al.getD 0 zN), .int .i64 (c1 : Int)] 72 (0, 0))) := heap_setCell_same wz lk 1 _ _ _ HOz.out.sk.links
        have N5 : Hid (∀ p, p < al.length → (wz.setCell ⟨lk, 1, none⟩ (.int .i64 (c1 : Int))).heap[(al.getD p zN).nb]? = some (.cells (nodC (al.getD p zN)) 58 (0, 0))) := fun p hp => set_typ HOz.out.sk.links (HOz.out.sk.nod p hp).2 (by decide) _
        have P5 : Hid (∀ p, p < al.length → ∃ cs, (wz.setCell ⟨lk, 1, none⟩ (.int .i64 (c1 : Int))).heap[(al.getD p zN).bb]? = some (.cells cs 54 (0, 0)) ∧ cs.size = (al.getD p zN).ht ∧ ∀ h, h < (al.getD p zN).ht → cs[h]? = some (ptO (nxN h (al.drop (p + 1))))) := fun p hp => by
          obtain ⟨_, cs, q1, q2⟩ := HOz.out.sk.nxt p hp
          exact ⟨cs, set_typ HOz.out.sk.links q1 (by decide) _, q2⟩
        clear l1 l1f hcI hcI2 hcI3
        generalize wz.setCell ⟨lk, 1, none⟩ (.int .i64 (c1 : Int)) = w5 at *
        have HKS : ∀ w', Below w5.heap.size w5 w' → (w'.cell? ⟨w.heap.size, 0, none⟩ = some (.string ke) ∧ w'.cell? ⟨w.heap.size, 1, none⟩ = some (.string ve) ∧ w'.cell? ⟨w.heap.size, 2, none⟩ = some (.int .i64 se) ∧ w'.cell? ⟨w.heap.size, 3, none⟩ = some (.bool ge)) ∧ w'.cell? ⟨lk, 1, none⟩ = some (.int .i64 ((c1 : Nat) : Int)) ∧ Below w5.heap.size w5 w' := fun w' hb => by
          obtain ⟨q0, q1, q2, q3⟩ := four_cells (block_below' X5.out hb)
          exact ⟨⟨q0, q1, q2, q3⟩, Lib.cell_of_heap (block_below' L5.out hb) 1, hb⟩
        have HKSH : Hid (∀ w', Below w5.heap.size w5 w' → (w'.cell? ⟨w.heap.size, 0, none⟩ = some (.string ke) ∧ w'.cell? ⟨w.heap.size, 1, none⟩ = some (.string ve) ∧ w'.cell? ⟨w.heap.size, 2, none⟩ = some (.int .i64 se) ∧ w'.cell? ⟨w.heap.size, 3, none⟩ = some (.bool ge)) ∧ w'.cell? ⟨lk, 1, none⟩ = some (.int .i64 ((c1 : Nat) : Int)) ∧ Below w5.heap.size w5 w') := HKS
        have HAL : Hid ((w5.cell? ⟨w.heap.size, 0, none⟩ = some (.string ke) ∧ w5.cell? ⟨w.heap.size, 1, none⟩ = some (.string ve) ∧ w5.cell? ⟨w.heap.size, 2, none⟩ = some (.int .i64 se) ∧ w5.cell? ⟨w.heap.size, 3, none⟩ = some (.bool ge)) ∧ w5.cell? ⟨lk, 1, none⟩ = some (.int .i64 ((c1 : Nat) : Int)) ∧ Below w5.heap.size w5 w5) := HKS w5 (Below.refl _ _)
        clear HKS
        have HHT : ∀ w', ((w'.cell? ⟨w.heap.size, 0, none⟩ = some (.string ke) ∧ w'.cell? ⟨w.heap.size, 1, none⟩ = some (.string ve) ∧ w'.cell? ⟨w.heap.size, 2, none⟩ = some (.int .i64 se) ∧ w'.cell? ⟨w.heap.size, 3, none⟩ = some (.bool ge)) ∧ w'.cell? ⟨lk, 1, none⟩ = some (.int .i64 ((c1 : Nat) : Int)) ∧ Below w5.heap.size w5 w') → Calls Tryd.prog 41 #[.int .i64 (c1 : Int)] w' fun e w'' => (∃ k : Nat, 1 ≤ k ∧ k ≤ 12 ∧ e = .returned (.int .i64 (k : Int))) ∧ w'' = w' := fun w' hS => height_any c1 w' ((HLA.out.kept H5.out HB2.out.1).below hS.2.2 (by have h1 := H5.out.size; have h2 := HLA.out.size; omega)) (by have h1 := HC1.out; have h2 := HS.out.pos; omega) (by have h1 := HC1.out; have h2 := HLN.out; omega)
        go_region_held3 (fun w' => (w'.cell? ⟨w.heap.size, 0, none⟩ = some (.string ke) ∧ w'.cell? ⟨w.heap.size, 1, none⟩ = some (.string ve) ∧ w'.cell? ⟨w.heap.size, 2, none⟩ = some (.int .i64 se) ∧ w'.cell? ⟨w.heap.size, 3, none⟩ = some (.bool ge)) ∧ w'.cell? ⟨lk, 1, none⟩ = some (.int .i64 ((c1 : Nat) : Int)) ∧ Below w5.heap.size w5 w')
          (with_reducible first | exact HAL.out | exact HKSH.out _ (Below.refl _ _).drew | exact HKSH.out _ (below_alloc _ _).drew | exact HKSH.out _ (below_alloc _ _) | exact HKSH.out _ (below_bt (below_alloc _ _) (below_alloc _ _)).drew | exact HKSH.out _ (below_bt (below_alloc _ _) (below_alloc _ _)) | exact HKSH.out _ (below_dw (by assumption)) | assumption)
          (first
            | (go_at_call 41; refine (HHT _ (by assumption)).mono ?_; rintro e w7 ⟨⟨k, hk1, hk2, rfl⟩, rfl⟩; have hmk := run_makeP k (by omega))
            | fail)
        rename_i hh
        have W6B : Below w5.heap.size w5 (((w5.alloc (.cells (zP k) 54)).alloc (.cells #[.string ke, .string ve, .int .i64 se, .bool ge, .slice (some ⟨w5.heap.size, 0, none⟩) k k] 58)).drew) := hh.2.2
        have HNE : Hid (∀ p, p < al.length → (al.getD p zN).bb ≠ w5.heap.size) := fun p hp e => by
          obtain ⟨cs, q1, _⟩ := P5.out p hp
          have := lt_heap q1
          omega
        have HNE2 : Hid (∀ p, p < al.length → (al.getD p zN).nb ≠ w5.heap.size + 1) := fun p hp e => by
          have := lt_heap (N5.out p hp)
          omega
        have HGB : Hid (∀ k, w5.heap.size ≤ k → Z k) := fun k hk => HB2.out.2 k (Nat.le_trans H5.out.size hk)
        have HI : Hid (InP Z lk g al f (agA b) ⟨⟨ke, ve, se, ge⟩, w5.heap.size + 1, w5.heap.size, k⟩ 0 (((w5.alloc (.cells (zP k) 54)).alloc (.cells #[.string ke, .string ve, .int .i64 se, .bool ge, .slice (some ⟨w5.heap.size, 0, none⟩) k k] 58)).drew)) := by
          refine ⟨?_, block_below' A5.out W6B, fun p hp => block_below' (N5.out p hp) W6B, fun p hp => ?_, heap_two _ _ _, zP k, block_below' (heap_alloc_new _ _) (below_alloc _ _).drew, zP_size k, fun h hh => by omega⟩
          · have e := block_below' L5.out W6B
            rw [HC1.out] at e
            exact e
          · obtain ⟨cs, q1, q2, q3⟩ := P5.out p hp
            exact ⟨cs, block_below' q1 W6B, q2, fun h hh => by rw [q3 h hh, if_neg (by omega)]⟩
        have HK6 : Hid (Kept Z w (((w5.alloc (.cells (zP k) 54)).alloc (.cells #[.string ke, .string ve, .int .i64 se, .bool ge, .slice (some ⟨w5.heap.size, 0, none⟩) k k] 58)).drew)) := H5.out.trans (kept_below W6B)
        have HKK : Hid (1 ≤ k ∧ k ≤ 12) := ⟨hk1, hk2⟩
        have hkI : (1 : Int) ≤ (k : Int) := by omega
        have hkI2 : (k : Int) ≤ 12 := by omega
        clear hh W6B H5 X5 A5 L5 N5 P5 HKSH HAL HHT hmk hk1 hk2
        generalize World.drew _ = w6 at HI HK6 ⊢
        generalize w5.heap.size = gb at *
        have HIS : ∀ (j : Nat) (wr : World), InP Z lk g al f (agA b) ⟨⟨ke, ve, se, ge⟩, gb + 1, gb, k⟩ j wr → wr.cell? ⟨gb + 1, 4, none⟩ = some (.slice (some ⟨gb, 0, none⟩) k k) := fun j wr h => Lib.cell_of_heap h.new 4
        have HISH : Hid (∀ (j : Nat) (wr : World), InP Z lk g al f (agA b) ⟨⟨ke, ve, se, ge⟩, gb + 1, gb, k⟩ j wr → wr.cell? ⟨gb + 1, 4, none⟩ = some (.slice (some ⟨gb, 0, none⟩) k k)) := HIS
        have e4 := HIS 0 w6 HI.out
        clear HIS
        go_wp2
        go_loopw [55] (fun i wr => ∃ j : Nat, j ≤ k ∧ i = .int .i64 (j : Int) ∧ InP Z lk g al f (agA b) ⟨⟨ke, ve, se, ge⟩, gb + 1, gb, k⟩ j wr ∧ Kept Z w wr) (fun i _ => k - (intOf i).toNat)
        case atStart => exact ⟨0, by omega, rfl, HI.out, HK6.out⟩
        case round =>
          obtain ⟨j, hj, rfl, hin, hkp⟩ := hrel
          have HIN : Hid (InP Z lk g al f (agA b) ⟨⟨ke, ve, se, ge⟩, gb + 1, gb, k⟩ j wr) := hin
          have HKP : Hid (Kept Z w wr) := hkp
          clear hin hkp e4
          by_cases hjk : j < k
          · have hjI : (j : Int) < (k : Int) := by omega
            have hjI2 : (0 : Int) ≤ (j : Int) := by omega
            have hjI3 : (j : Int) < 12 := by omega
            have kw0 : IntKind.i64.wrap (j : Int) = (j : Int) := by rw [IntKind.wrap_i64]; omega
            have HJ : Hid (j < k) := hjk
            have hj12 : j < 12 := by have := HKK.out; omega
            have ha := HF.out j hj12
            obtain ⟨np, hnp⟩ : ∃ np, al.getD (f j) zN = np := ⟨_, rfl⟩
            have hnb : np.nb = b j := by rw [← hnp]; exact HBF.out j
            have q4 : wr.cell? ⟨gb + 1, 4, none⟩ = some (.slice (some ⟨gb, 0, none⟩) k k) := HISH.out j wr HIN.out
            have qa : wr.cell? ⟨g, j, none⟩ = some (.pointer (some ⟨b j, 0, none⟩)) := (cell_of_row wr g j _ _ _ HIN.out.ab).trans (agA_at hj12)
            have qn : wr.cell? ⟨b j, 4, none⟩ = some (.slice (some ⟨np.bb, 0, none⟩) np.ht np.ht) := by
              have e := HIN.out.nod (f j) ha.lt
              rw [hnp, hnb] at e
              exact Lib.cell_of_heap e 4
            have HNX2 : Hid ((al.getD (f j) zN).bb = np.bb) := by show _ = _; rw [hnp]
            have qc : wr.cell? ⟨np.bb, j, none⟩ = some (.pointer (adO (nxN j (al.drop (f j + 1))))) := by
              obtain ⟨cs, c1, c2, c3⟩ := HIN.out.nxt (f j) ha.lt
              rw [← hnp, cell_of_row wr _ j cs _ _ c1, c3 j ha.high, if_neg (by omega), ptO_eq]
            have hti : (j : Int) < ((np.ht : Nat) : Int) := by have := ha.high; rw [hnp] at this; omega
            obtain ⟨vo, qv⟩ : ∃ vo, wr.cell? ⟨gb, j, none⟩ = some vo := by
              obtain ⟨cs, c1, c2, _⟩ := HIN.out.newb
              exact ⟨cs[j]'(by rw [c2]; exact hjk), (cell_of_row wr gb j cs _ _ c1).trans (Array.getElem?_eq_getElem _)⟩
            have qf : wr.frozen? ⟨gb, j, none⟩ = false := by
              obtain ⟨cs, c1, _⟩ := HIN.out.newb
              exact frozen_row c1 j
            have HST := HIN.out.step (k := j) hjk ha.lt ha.high HS.out.apart HNE.out
            rw [ptO_eq, hnp] at HST
            have HKT : Hid (∀ vv vu : Value, Kept Z w ((wr.setCell ⟨gb, j, none⟩ vv).setCell ⟨np.bb, j, none⟩ vu)) := fun vv vu => by
              obtain ⟨cs, c1, _⟩ := HIN.out.newb
              obtain ⟨cs2, c3, _⟩ := HIN.out.nxt (f j) ha.lt
              rw [hnp] at c3
              refine HKP.out.trans ((kept_set c1 (.inl rfl) (HGB.out gb (Nat.le_refl _)) vv).trans (kept_set (set_num c3 (by rw [← hnp]; exact HNE.out _ ha.lt) vv) (.inl rfl) ?_ vu))
              have := (HS.out.nxt (f j) ha.lt).1
              rw [hnp] at this
              exact this
            have hne : np.bb ≠ gb := by rw [← hnp]; exact HNE.out _ ha.lt
            obtain ⟨qo, hqo⟩ : ∃ qo, adO (nxN j (al.drop (f j + 1))) = qo := ⟨_, rfl⟩
            rw [hqo] at HST qc
            have HSTH : Hid (InP Z lk g al f (agA b) ⟨⟨ke, ve, se, ge⟩, gb + 1, gb, k⟩ (j + 1) ((wr.setCell ⟨gb, j, none⟩ (.pointer qo)).setCell ⟨np.bb, j, none⟩ (.pointer (some ⟨gb + 1, 0, none⟩)))) := HST
            have qc1 : (wr.setCell ⟨gb, j, none⟩ (.pointer qo)).cell? ⟨np.bb, j, none⟩ = some (.pointer qo) := (World.cell?_of_block (Below.heap_setCell wr ⟨gb, j, none⟩ _ np.bb hne)).trans qc
            have qf1 : (wr.setCell ⟨gb, j, none⟩ (.pointer qo)).frozen? ⟨np.bb, j, none⟩ = false := by
              obtain ⟨cs2, c3, _⟩ := HIN.out.nxt (f j) ha.lt
              rw [hnp] at c3
              exact frozen_row (set_num c3 hne _) j
            have qa1 : (wr.setCell ⟨gb, j, none⟩ (.pointer qo)).cell? ⟨g, j, none⟩ = some (.pointer (some ⟨b j, 0, none⟩)) := by
              obtain ⟨cs, c1, _⟩ := HIN.out.newb
              exact (cell_of_row _ g j _ _ _ (set_typ c1 HIN.out.ab (by decide) _)).trans (agA_at hj12)
            have qn1 : (wr.setCell ⟨gb, j, none⟩ (.pointer qo)).cell? ⟨b j, 4, none⟩ = some (.slice (some ⟨np.bb, 0, none⟩) np.ht np.ht) := by
              obtain ⟨cs, c1, _⟩ := HIN.out.newb
              have e := HIN.out.nod (f j) ha.lt
              rw [hnp, hnb] at e
              exact Lib.cell_of_heap (set_typ c1 e (by decide) _) 4
            clear HST hqo hne hnb hnp ha hj12 hjk hj
            obtain ⟨nne, nnb, nbb, nht⟩ := np
            simp only at *
            go_wp2
            go_region
            all_goals
              go_wp2
              go_roundw
              case rel => exact ⟨j + 1, HJ.out, by go_num, HSTH.out.drew, (HKT.out _ _).drew⟩
              case measure => have := HJ.out; simp [intOf]; omega
          · have hjI : (k : Int) ≤ (j : Int) := by omega
            have HJ : Hid (j = k) := by show _ = _; omega
            clear hjk hj
            go_wp2
            go_ret
            have hin := HIN.out
            rw [HJ.out] at hin
            have hE := HRE.out
            unfold putR at hE
            rw [if_neg HNS.out, if_neg (by rw [eosN_len, HC.out]; have := HCM.out; omega)] at hE
            refine ⟨by rw [← (Prod.mk.inj hE).2]; rfl, ⟨_, hin.done (x := ⟨ke, ve, se, ge⟩) HS.out HF.out HKK.out.1 HKK.out.2 ⟨HGB.out (gb + 1) (Nat.le_succ _), HGB.out gb (Nat.le_refl _)⟩ HNE.out HNE2.out, ?_⟩, HKP.out⟩
            rw [ents_ins (x := ⟨ke, ve, se, ge⟩) rfl (HF.out 0 (by omega)) (fun q hq => (HS.out.high q hq).1)]
            exact (Prod.mk.inj hE).1
end Go.Proofs.YtbeoijlkhpbdjaaDoor
namespace Go.Proofs.YtbeoijlkhpbdjaaDoor
open Go.RowKit Go.WideShapes

theorem put_row {l : List EntV} (hc : checkE l = 0) {x : EntV} (h1 : oneE x = 0) : putR l x = (stepE l x, (putE l x).2) := by
  have hr := ((checkE_rise l).1 hc).2.2
  have hsame : (placeE l x < l.length ∧ sameE (l.getD (placeE l x) zeroE) x = true) ↔ (placeE l x < l.length ∧ lessE x (l.getD (placeE l x) zeroE) = false) := by
    constructor
    · rintro ⟨a, b⟩
      refine ⟨a, ?_⟩
      unfold sameE at b
      simp only [Bool.and_eq_true, decide_eq_true_eq] at b
      exact lessE_same ⟨b.1.symm, b.2.symm⟩
    · rintro ⟨a, b⟩
      refine ⟨a, ?_⟩
      have := lessE_tri (place_at l x a) b
      unfold sameE
      simp only [Bool.and_eq_true, decide_eq_true_eq]
      exact this
  unfold putR stepE putE
  rw [if_neg (by simp [hc] : ¬ checkE l ≠ 0), if_neg (by simp [h1] : ¬ oneE x ≠ 0)]
  by_cases hs : placeE l x < l.length ∧ lessE x (l.getD (placeE l x) zeroE) = false
  · rw [if_pos (hsame.2 hs), if_pos hs]; rfl
  · rw [if_neg (fun h => hs (hsame.1 h)), if_neg hs]
    by_cases hm : 4096 ≤ l.length
    · rw [if_pos hm, if_pos hm]; rfl
    · rw [if_neg hm, if_neg hm]; rfl
theorem kept_row {Z : Nat → Prop} {w w' : World} {r : Nat} {cs : Array Value} {fr : Nat × Nat} (h : w.heap[r]? = some (.cells cs 34 fr)) (hk : Kept Z w w') : w'.heap[r]? = some (.cells cs 34 fr) := hk.typ _ _ _ _ h (by decide) (by decide)
set_option maxHeartbeats 2000000 in
theorem rowPut_any (Z : Nat → Prop) (r : Nat) (l : List EntV) (x : EntV) (w : World) (h : RowIn w Z r l) (hc : checkE l = 0) (hL : Laid w) (hb2 : ¬ Z 1) (hbw : ∀ k, w.heap.size ≤ k → Z k) (l' : List EntV) (E : Nat) (hl' : stepE l x = l') (hE : (putE l x).2 = E) :
    Calls Tryd.prog 14 #[.pointer (some ⟨r, 0, none⟩), entV x] w fun e w' => e = .returned (.int .i64 (E : Int)) ∧ RowIn w' Z r l' ∧ Kept Z w w' := by
  obtain ⟨lk, al, hbr, hrb, hs, hal⟩ := h.out
  have HS : Hid (Skip w Z lk al) := hs
  have HRB : Hid (Z r ∧ w.heap[r]? = some (.cells #[.pointer (some ⟨lk, 0, none⟩)] 34 (0, 0))) := ⟨hbr, hrb⟩
  have HAL : Hid (eosN al = l) := hal
  have HC : Hid (checkE l = 0) := hc
  have HLA : Hid (Laid w) := hL
  have HB2 : Hid (¬ Z 1 ∧ ∀ k, w.heap.size ≤ k → Z k) := ⟨hb2, hbw⟩
  have HR : Hid (stepE l x = l' ∧ (putE l x).2 = E) := ⟨hl', hE⟩
  obtain ⟨O, hO⟩ : ∃ O, oneE x = O := ⟨_, rfl⟩
  have HO : Hid (oneE x = O) := hO
  have H1 := fun w' => checkOne_any x w' O hO
  have HMD := fun w' h => made_yes r lk w' h
  obtain ⟨ke, ve, se, ge⟩ := x
  rw [entV_def] at H1 ⊢
  clear hs hrb hbr hal hc hL hb2 hbw hl' hE h hO
  have bx := below_alloc w (.cells #[.string ke, .string ve, .int .i64 se, .bool ge] 23)
  have HBX : Hid ((w.alloc (.cells #[.string ke, .string ve, .int .i64 se, .bool ge] 23)).heap[w.heap.size]? = some (.cells #[.string ke, .string ve, .int .i64 se, .bool ge] 23 (0, 0))) := heap_alloc_new _ _
  have hcr : (w.alloc (.cells #[.string ke, .string ve, .int .i64 se, .bool ge] 23)).cell? ⟨r, 0, none⟩ = some (.pointer (some ⟨lk, 0, none⟩)) := Lib.cell_of_heap (block_below' HRB.out.2 bx) 0
  go_enter Tryd.func14, Tryd.ntmps14
  go_wp2_with fail
  refine (HMD _ hcr).mono ?_
  rintro e w1 ⟨rfl, rfl⟩
  clear HMD hcr
  go_wp2_with fail
  refine (H1 _).mono ?_
  rintro e w2 ⟨rfl, hb3⟩
  have HB : Hid (Below w.heap.size w w2) := below_bt bx hb3
  have HX : Hid (w2.heap[w.heap.size]? = some (.cells #[.string ke, .string ve, .int .i64 se, .bool ge] 23 (0, 0))) := block_below' HBX.out hb3
  clear H1 hb3 bx HBX
  rcases Nat.eq_zero_or_pos O with h0 | h0
  · subst h0
    have hs2 := HS.out.below HB.out
    have hcr : w2.cell? ⟨r, 0, none⟩ = some (.pointer (some ⟨lk, 0, none⟩)) := Lib.cell_of_heap (block_below' HRB.out.2 HB.out) 0
    obtain ⟨x0, x1, x2, x3⟩ := four_cells HX.out
    have hcc := (checkE_rise l).1 HC.out
    have HPR := put_row HC.out HO.out
    rw [HR.out.1, HR.out.2, ← HAL.out] at HPR
    have HPT := fun w' (hw : Below w2.heap.size w2 w') => putL_any Z lk al ⟨ke, ve, se, ge⟩ w' (hs2.below hw) (by rw [HAL.out]; exact hcc.2.2) (by have h1 := eosN_len al; rw [HAL.out] at h1; have h2 := hcc.1; have := HS.out.pos; omega) (HLA.out.below (below_bt HB.out hw) HLA.out.size) HB2.out.1 (fun k hk => HB2.out.2 k (by have h1 := HB.out.size; have h3 := hw.size; omega)) l' E HPR
    simp only [entV_def] at HPT
    clear hcc HPR hs2
    go_wp2
    go_region_with (go_at_call 29; refine (HPT _ (by first | exact (Below.refl _ _).drew | exact Below.refl _ _)).mono ?_; rintro e w3 ⟨rfl, hal3, hk3⟩)
    all_goals
      have hk : Kept Z w w3 := by first | exact (kept_below HB.out).drew.trans hk3 | exact (kept_below HB.out).trans hk3
      have HK : Hid (Kept Z w w3) := hk
      have HA3 : Hid (∃ al', Skip w3 Z lk al' ∧ eosN al' = l') := hal3
      clear hk hk3 hal3
      go_wp2
      go_ret
      obtain ⟨al', g1, g2⟩ := HA3.out
      have hrw := kept_row HRB.out.2 HK.out
      first
        | exact ⟨rfl, ⟨lk, al', HRB.out.1, hrw, g1, g2⟩, HK.out⟩
        | exact ⟨rfl, ⟨lk, al', HRB.out.1, hrw, ⟨g1.pos, g1.head, g1.lkb, g1.links, g1.nod, g1.nxt, g1.high, g1.apart, g1.apartn⟩, g2⟩, HK.out.drew⟩
  · have hO1 : ((O : Int) == 0) = false := by simp; omega
    have HOp : Hid (0 < O) := h0
    clear h0
    go_wp2
    go_ret
    have hp := putE_one HC.out (x := ⟨ke, ve, se, ge⟩) (by rw [HO.out]; have := HOp.out; omega)
    rw [HO.out] at hp
    refine ⟨?_, ?_, kept_below HB.out⟩
    · rw [← HR.out.2, hp]; rfl
    · rw [← HR.out.1, stepE_no (by rw [hp]; show O ≠ 0; have := HOp.out; omega)]
      exact ⟨lk, al, HRB.out.1, block_below' HRB.out.2 HB.out, HS.out.below HB.out, HAL.out⟩
set_option maxHeartbeats 2000000 in
theorem rowAll_any (Z : Nat → Prop) (r : Nat) (l : List EntV) (w : World) (h : RowIn w Z r l) (hc : checkE l = 0) :
    Calls Tryd.prog 12 #[.pointer (some ⟨r, 0, none⟩)] w fun e w' => (∃ q c, e = .returned (.tuple #[.slice q l.length c, .int .i64 0]) ∧ EOwn w' w.heap.size (.slice q l.length c) l) ∧ Below w.heap.size w w' := by
  obtain ⟨lk, al, hbr, hrb, hs, hal⟩ := h.out
  have hcr : w.cell? ⟨r, 0, none⟩ = some (.pointer (some ⟨lk, 0, none⟩)) := Lib.cell_of_heap hrb 0
  have HMD := fun w' h => made_yes r lk w' h
  have HA := all_any Z lk al w hs (by have h1 := eosN_len al; rw [hal] at h1; have h2 := ((checkE_rise l).1 hc).1; have := hs.pos; omega)
  rw [hal] at HA
  clear hs hal hc h hbr hrb
  go_enter Tryd.func12, Tryd.ntmps12
  go_wp2_with fail
  refine (HMD _ hcr).mono ?_
  rintro e w1 ⟨rfl, rfl⟩
  clear HMD
  go_wp2_with fail
  refine HA.mono ?_
  rintro e w2 ⟨⟨v, rfl, hv⟩, hb⟩
  obtain ⟨q, c, rfl, _, _, _⟩ := hv.form
  have HV : Hid (EOwn w2 w1.heap.size (.slice q l.length c) l) := hv
  have HB : Hid (Below w1.heap.size w1 w2) := hb
  clear hv hb HA hcr
  go_wp2
  go_ret2
  exact ⟨⟨q, c, rfl, HV.out⟩, HB.out⟩
theorem find_row {l : List EntV} (hr : RiseE l) (key : ByteArray) (seq : Int) : newL l key seq = (if placeE l ⟨key, ByteArray.empty, seq, false⟩ < l.length ∧ (l.getD (placeE l ⟨key, ByteArray.empty, seq, false⟩) zeroE).key = key then (l.getD (placeE l ⟨key, ByteArray.empty, seq, false⟩) zeroE, true) else (zeroE, false)) := by
  obtain ⟨x, hx⟩ : ∃ x : EntV, (⟨key, ByteArray.empty, seq, false⟩ : EntV) = x := ⟨_, rfl⟩
  have xk : x.key = key := by rw [← hx]
  have xs : x.seq = seq := by rw [← hx]
  rw [hx]
  have hpa := place_ahead l x
  by_cases h : placeE l x < l.length ∧ (l.getD (placeE l x) zeroE).key = key
  · rw [if_pos h]
    have h1 := place_at l x h.1
    refine newL_is hr (getD_mem' h.1) h.2 ?_ (fun z hz hk hs => ?_)
    · rcases Int.lt_or_le seq (l.getD (placeE l x) zeroE).seq with hc | hc
      · rw [(lessE_def _ _).2 (.inr ⟨by rw [h.2, xk], by omega⟩)] at h1; cases h1
      · exact hc
    · obtain ⟨i, hi, rfl⟩ := List.getElem_of_mem hz
      rcases Nat.lt_trichotomy i (placeE l x) with hc | hc | hc
      · have h2 := hpa l[i] (by rw [List.mem_take_iff_getElem]; exact ⟨i, by omega, rfl⟩)
        rcases (lessE_def _ _).1 h2 with h3 | h3
        · rw [hk, xk, ltB_irrefl] at h3; cases h3
        · omega
      · subst hc
        rw [List.getD_eq_getElem?_getD, List.getElem?_eq_getElem hi]
        exact Int.le_refl _
      · have h2 := List.pairwise_iff_getElem.1 hr (placeE l x) i h.1 hi hc
        rw [List.getD_eq_getElem?_getD, List.getElem?_eq_getElem h.1] at h ⊢
        simp only [Option.getD_some] at h ⊢
        rcases (lessE_def _ _).1 h2 with h3 | h3
        · rw [h.2, hk, ltB_irrefl] at h3; cases h3
        · omega
  · rw [if_neg h]
    refine newL_none (fun z hz hh => h ?_)
    obtain ⟨i, hi, rfl⟩ := List.getElem_of_mem hz
    rcases Nat.lt_or_ge i (placeE l x) with hc | hc
    · have h2 := hpa l[i] (by rw [List.mem_take_iff_getElem]; exact ⟨i, by omega, rfl⟩)
      rcases (lessE_def _ _).1 h2 with h3 | h3
      · rw [hh.1, xk, ltB_irrefl] at h3; cases h3
      · omega
    · have hp : placeE l x < l.length := by omega
      refine ⟨hp, ?_⟩
      have h1 := place_at l x hp
      rcases Nat.eq_or_lt_of_le hc with e | hc
      · rw [List.getD_eq_getElem?_getD, List.getElem?_eq_getElem hp]
        simp only [Option.getD_some, e]
        exact hh.1
      · have h2 := List.pairwise_iff_getElem.1 hr (placeE l x) i hp hi hc
        rw [List.getD_eq_getElem?_getD, List.getElem?_eq_getElem hp] at h1 ⊢
        simp only [Option.getD_some] at h1 ⊢
        rcases (lessE_def _ _).1 h2 with h3 | h3
        · exfalso
          rw [hh.1, ← xk] at h3
          rw [(lessE_def _ _).2 (.inl h3)] at h1; cases h1
        · rw [h3.1, hh.1]
end Go.Proofs.YtbeoijlkhpbdjaaDoor
namespace Go.Proofs.YtbeoijlkhpbdjaaDoor
open Go.RowKit Go.WideShapes

def askE (key : ByteArray) (seq : Int) : EntV := ⟨key, ByteArray.empty, seq, false⟩
theorem one_ask (key : ByteArray) (seq : Int) : oneE (askE key seq) = if key.size < 1 ∨ 256 < key.size then 60 else if seq < 0 ∨ 2147483647 < seq then 2 else 0 := by
  unfold oneE askE
  simp only [show ByteArray.empty.size = 0 from rfl]
  simp
/-- What Find tells, by the entry that is asked for. -/
theorem findL_ask {l : List EntV} (hc : checkE l = 0) (key : ByteArray) (seq : Int) : findL l key seq = if oneE (askE key seq) ≠ 0 then (zeroE, false, oneE (askE key seq)) else if placeE l (askE key seq) < l.length ∧ (l.getD (placeE l (askE key seq)) zeroE).key = key then (l.getD (placeE l (askE key seq)) zeroE, true, 0) else (zeroE, false, 0) := by
  have hr := ((checkE_rise l).1 hc).2.2
  unfold findL
  rw [if_neg (by simp [hc]), one_ask, find_row hr]
  by_cases h1 : key.size < 1 ∨ 256 < key.size
  · rw [if_pos h1, if_pos h1, if_pos (by decide)]
  · rw [if_neg h1, if_neg h1]
    by_cases h2 : seq < 0 ∨ 2147483647 < seq
    · rw [if_pos h2, if_pos h2, if_pos (by decide)]
    · rw [if_neg h2, if_neg h2, if_neg (show ¬ (0 : Nat) ≠ 0 by decide)]
      show _ = if placeE l ⟨key, ByteArray.empty, seq, false⟩ < l.length ∧ (l.getD (placeE l ⟨key, ByteArray.empty, seq, false⟩) zeroE).key = key then _ else _
      by_cases h3 : placeE l ⟨key, ByteArray.empty, seq, false⟩ < l.length ∧ (l.getD (placeE l ⟨key, ByteArray.empty, seq, false⟩) zeroE).key = key
      · rw [if_pos h3, if_pos h3]; rfl
      · rw [if_neg h3, if_neg h3]
structure OnF (w : World) (k : ByteArray) (s : Int) (wr : World) : Prop where
  bel : Below w.heap.size w wr
  res : wr.heap[w.heap.size]? = some (.cells #[.string ⟨#[]⟩, .string ⟨#[]⟩, .int .i64 0, .bool false] 23 (0, 0))
  at_ : wr.heap[w.heap.size + 1]? = some (.cells #[.string k, .string ⟨#[]⟩, .int .i64 s, .bool false] 23 (0, 0))
theorem OnF.next {w wr w' : World} {k : ByteArray} {s : Int} (h : OnF w k s wr) (hb : Below wr.heap.size wr w') : OnF w k s w' := ⟨below_bt h.bel hb, block_below' h.res hb, block_below' h.at_ hb⟩
theorem onF_new (w : World) (k : ByteArray) (s : Int) : OnF w k s ((w.alloc (.cells #[.string ⟨#[]⟩, .string ⟨#[]⟩, .int .i64 0, .bool false] 23)).alloc (.cells #[.string k, .string ⟨#[]⟩, .int .i64 s, .bool false] 23)) :=
  ⟨below_bt (below_alloc _ _) (below_alloc _ _), block_below' (heap_alloc_new _ _) (below_alloc _ _), heap_two _ _ _⟩
set_option maxRecDepth 8000 in
set_option maxHeartbeats 2000000 in
theorem rowFind_any (Z : Nat → Prop) (r : Nat) (l : List EntV) (key : ByteArray) (seq : Int) (w : World) (h : RowIn w Z r l) (hc : checkE l = 0) (y : EntV) (is : Bool) (E : Nat) (hR : findL l key seq = (y, is, E)) :
    Calls Tryd.prog 11 #[.pointer (some ⟨r, 0, none⟩), .string key, .int .i64 seq] w fun e w' => e = .returned (.tuple #[entV y, .bool is, .int .i64 (E : Int)]) ∧ Below w.heap.size w w' := by
  obtain ⟨lk, al, hbr, hrb, hs, hal⟩ := h.out
  rw [findL_ask hc] at hR
  have HS : Hid (Skip w Z lk al) := hs
  have HRB : Hid (w.heap[r]? = some (.cells #[.pointer (some ⟨lk, 0, none⟩)] 34 (0, 0))) := hrb
  have HAL : Hid (eosN al = l) := hal
  have HRI : Hid (RiseE l) := ((checkE_rise l).1 hc).2.2
  obtain ⟨O, hO⟩ : ∃ O, oneE (askE key seq) = O := ⟨_, rfl⟩
  rw [hO] at hR
  have H1 := fun w' => checkOne_any (askE key seq) w' O hO
  unfold askE at H1
  rw [entV_def] at H1
  have HR : Hid ((if O ≠ 0 then (zeroE, false, O) else if placeE l (askE key seq) < l.length ∧ (l.getD (placeE l (askE key seq)) zeroE).key = key then (l.getD (placeE l (askE key seq)) zeroE, true, 0) else (zeroE, false, 0)) = (y, is, E)) := hR
  have HMD := fun w' h => made_yes r lk w' h
  have HNW : Hid (OnF w key seq ((w.alloc (.cells #[.string ⟨#[]⟩, .string ⟨#[]⟩, .int .i64 0, .bool false] 23)).alloc (.cells #[.string key, .string ⟨#[]⟩, .int .i64 seq, .bool false] 23))) := onF_new w key seq
  have hcr : (w.alloc (.cells #[.string ⟨#[]⟩, .string ⟨#[]⟩, .int .i64 0, .bool false] 23)).cell? ⟨r, 0, none⟩ = some (.pointer (some ⟨lk, 0, none⟩)) := Lib.cell_of_heap (block_below' hrb (below_alloc _ _)) 0
  clear hs hrb hbr hal hc h hO hR
  go_enter Tryd.func11, Tryd.ntmps11
  go_wp2_with fail
  refine (HMD _ hcr).mono ?_
  rintro e w1 ⟨rfl, rfl⟩
  clear HMD hcr
  go_wp2_with fail
  refine (H1 _).mono ?_
  rintro e w2 ⟨rfl, hb3⟩
  have HON : Hid (OnF w key seq w2) := HNW.out.next hb3
  clear H1 hb3 HNW
  rcases Nat.eq_zero_or_pos O with h0 | h0
  · subst h0
    have hs2 := HS.out.below HON.out.bel
    have HKS : ∀ w', Below w2.heap.size w2 w' → (w'.cell? ⟨w.heap.size + 1, 0, none⟩ = some (.string key) ∧ w'.cell? ⟨w.heap.size + 1, 1, none⟩ = some (.string ⟨#[]⟩) ∧ w'.cell? ⟨w.heap.size + 1, 2, none⟩ = some (.int .i64 seq) ∧ w'.cell? ⟨w.heap.size + 1, 3, none⟩ = some (.bool false)) ∧ w'.cell? ⟨r, 0, none⟩ = some (.pointer (some ⟨lk, 0, none⟩)) ∧ Below w2.heap.size w2 w' := fun w' hb => by
      obtain ⟨q0, q1, q2, q3⟩ := four_cells (block_below' HON.out.at_ hb)
      exact ⟨⟨q0, q1, q2, q3⟩, Lib.cell_of_heap (block_below' HRB.out (below_bt HON.out.bel hb)) 0, hb⟩
    have HKSH : Hid (∀ w', Below w2.heap.size w2 w' → (w'.cell? ⟨w.heap.size + 1, 0, none⟩ = some (.string key) ∧ w'.cell? ⟨w.heap.size + 1, 1, none⟩ = some (.string ⟨#[]⟩) ∧ w'.cell? ⟨w.heap.size + 1, 2, none⟩ = some (.int .i64 seq) ∧ w'.cell? ⟨w.heap.size + 1, 3, none⟩ = some (.bool false)) ∧ w'.cell? ⟨r, 0, none⟩ = some (.pointer (some ⟨lk, 0, none⟩)) ∧ Below w2.heap.size w2 w') := HKS
    have HAL0 : Hid ((w2.cell? ⟨w.heap.size + 1, 0, none⟩ = some (.string key) ∧ w2.cell? ⟨w.heap.size + 1, 1, none⟩ = some (.string ⟨#[]⟩) ∧ w2.cell? ⟨w.heap.size + 1, 2, none⟩ = some (.int .i64 seq) ∧ w2.cell? ⟨w.heap.size + 1, 3, none⟩ = some (.bool false)) ∧ w2.cell? ⟨r, 0, none⟩ = some (.pointer (some ⟨lk, 0, none⟩)) ∧ Below w2.heap.size w2 w2) := HKS w2 (Below.refl _ _)
    clear HKS
    obtain ⟨v, hv⟩ : ∃ v, ptO al[placeE (eosN al) (askE key seq) + 1]? = v := ⟨_, rfl⟩
    have HNA := fun w' (hS : (w'.cell? ⟨w.heap.size + 1, 0, none⟩ = some (.string key) ∧ w'.cell? ⟨w.heap.size + 1, 1, none⟩ = some (.string ⟨#[]⟩) ∧ w'.cell? ⟨w.heap.size + 1, 2, none⟩ = some (.int .i64 seq) ∧ w'.cell? ⟨w.heap.size + 1, 3, none⟩ = some (.bool false)) ∧ w'.cell? ⟨r, 0, none⟩ = some (.pointer (some ⟨lk, 0, none⟩)) ∧ Below w2.heap.size w2 w') => notAhead_any Z lk al (askE key seq) w' (hs2.below hS.2.2) (by rw [HAL.out]; exact HRI.out) v hv
    rw [show entV (askE key seq) = .agg #[.string key, .string ⟨#[]⟩, .int .i64 seq, .bool false] from rfl] at HNA
    have HV : Hid (ptO al[placeE (eosN al) (askE key seq) + 1]? = v) := hv
    clear hv hs2
    go_wp2
    go_region_held3 (fun w' => (w'.cell? ⟨w.heap.size + 1, 0, none⟩ = some (.string key) ∧ w'.cell? ⟨w.heap.size + 1, 1, none⟩ = some (.string ⟨#[]⟩) ∧ w'.cell? ⟨w.heap.size + 1, 2, none⟩ = some (.int .i64 seq) ∧ w'.cell? ⟨w.heap.size + 1, 3, none⟩ = some (.bool false)) ∧ w'.cell? ⟨r, 0, none⟩ = some (.pointer (some ⟨lk, 0, none⟩)) ∧ Below w2.heap.size w2 w')
      (with_reducible first | exact HAL0.out | exact HKSH.out _ (Below.refl _ _).drew | exact HKSH.out _ (below_dw (by assumption)) | assumption)
      (first
        | (go_at_call 27; refine (HNA _ (by assumption)).mono ?_; rintro e w3 ⟨rfl, hb4⟩)
        | fail)
    rename_i hh
    have HB4 : Hid (Below w2.heap.size w2 w3) := hh.2.2
    clear hh hb4 HKSH HAL0 HNA
    have hon3 := HON.out.next HB4.out
    have hsk := HS.out.below hon3.bel
    clear HON HB4
    have HON : Hid (OnF w key seq w3) := hon3
    obtain ⟨⟨z0, z1, z2, z3⟩, f0, f1, f2, f3⟩ := four HON.out.res
    cases hnx : al[placeE (eosN al) (askE key seq) + 1]? with
    | none =>
      have hv := HV.out
      rw [hnx] at hv
      obtain rfl : v = .pointer none := hv.symm
      have HN : Hid (al[placeE (eosN al) (askE key seq) + 1]? = none) := hnx
      clear hv hnx hsk hon3 HV
      go_wp2
      (try simp only [Exit.inBlock, Exit.then])
      refine bodyPost_ret (v := .tuple #[entV zeroE, .bool false, .int .i64 0]) ?_ rfl ⟨by
        have h := HR.out
        rw [if_neg (by simp), if_neg (fun hc => by
          have h1 := HN.out
          rw [List.getElem?_eq_none_iff, HAL.out] at h1
          have h2 := eosN_len al
          rw [HAL.out] at h2
          omega)] at h
        obtain ⟨rfl, rfl, rfl⟩ := (show zeroE = y ∧ false = is ∧ 0 = E from ⟨(Prod.mk.inj h).1, (Prod.mk.inj (Prod.mk.inj h).2).1, (Prod.mk.inj (Prod.mk.inj h).2).2⟩)
        rfl, ?_⟩
      · rw [results_cell_tmp2 rfl]
        go_simp
        rfl
      · exact set4_at HON.out.bel (Nat.le_refl _)
    | some m =>
      have hv := HV.out
      rw [hnx] at hv
      obtain rfl : v = .pointer (some ⟨m.nb, 0, none⟩) := hv.symm
      have HN : Hid (al[placeE (eosN al) (askE key seq) + 1]? = some m) := hnx
      have hlt : placeE (eosN al) (askE key seq) + 1 < al.length := (List.getElem?_eq_some_iff.1 hnx).1
      have hm : al.getD (placeE (eosN al) (askE key seq) + 1) zN = m := by rw [List.getD_eq_getElem?_getD, hnx]; rfl
      obtain ⟨y0, y1, y2, y3, _⟩ := hsk.cells hlt hm
      have HPL : Hid (placeE l (askE key seq) < l.length ∧ l.getD (placeE l (askE key seq)) zeroE = m.ent) := by
        have e := eosN_at hlt
        rw [hm, HAL.out] at e
        rw [HAL.out] at hlt
        have e2 := eosN_len al
        rw [HAL.out] at e2
        exact ⟨by omega, e⟩
      clear hv hnx hsk hon3 HV hlt hm
      obtain ⟨⟨kx, vx, sx, gx⟩, mb, mbb, mht⟩ := m
      simp only at y0 y1 y2 y3
      cases hq : (kx.toList == key.toList) with
      | true =>
        have HKE : Hid (kx = key) := by show _ = _; rw [eq_str] at hq; exact of_decide_eq_true hq
        go_wp2
        (try simp only [Exit.inBlock, Exit.then])
        refine bodyPost_ret (v := .tuple #[entV ⟨kx, vx, sx, gx⟩, .bool true, .int .i64 0]) ?_ rfl ⟨by
          have h := HR.out
          rw [if_neg (by simp), if_pos ⟨HPL.out.1, by rw [HPL.out.2]; exact HKE.out⟩, HPL.out.2] at h
          obtain ⟨rfl, rfl, rfl⟩ := (show (⟨kx, vx, sx, gx⟩ : EntV) = y ∧ true = is ∧ 0 = E from ⟨(Prod.mk.inj h).1, (Prod.mk.inj (Prod.mk.inj h).2).1, (Prod.mk.inj (Prod.mk.inj h).2).2⟩)
          rfl, ?_⟩
        · rw [results_cell_tmp2 rfl]
          go_simp
          rfl
        · exact set4_at HON.out.bel (Nat.le_refl _)
      | false =>
        have HKE : Hid (kx ≠ key) := by show _ ≠ _; rw [eq_str] at hq; exact of_decide_eq_false hq
        go_wp2
        (try simp only [Exit.inBlock, Exit.then])
        refine bodyPost_ret (v := .tuple #[entV zeroE, .bool false, .int .i64 0]) ?_ rfl ⟨by
          have h := HR.out
          rw [if_neg (by simp), if_neg (fun hc => by have := hc.2; rw [HPL.out.2] at this; exact HKE.out this)] at h
          obtain ⟨rfl, rfl, rfl⟩ := (show zeroE = y ∧ false = is ∧ 0 = E from ⟨(Prod.mk.inj h).1, (Prod.mk.inj (Prod.mk.inj h).2).1, (Prod.mk.inj (Prod.mk.inj h).2).2⟩)
          rfl, ?_⟩
        · rw [results_cell_tmp2 rfl]
          go_simp
          rfl
        · exact set4_at HON.out.bel (Nat.le_refl _)
  · have hO1 : ((O : Int) == 0) = false := by simp; omega
    have HOp : Hid (0 < O) := h0
    obtain ⟨⟨z0, z1, z2, z3⟩, f0, f1, f2, f3⟩ := four HON.out.res
    clear h0
    go_wp2
    (try simp only [Exit.inBlock, Exit.then])
    refine bodyPost_ret (v := .tuple #[entV zeroE, .bool false, .int .i64 (O : Int)]) ?_ rfl ⟨by
      have h := HR.out
      rw [if_pos (by have := HOp.out; omega)] at h
      obtain ⟨rfl, rfl, rfl⟩ := (show zeroE = y ∧ false = is ∧ O = E from ⟨(Prod.mk.inj h).1, (Prod.mk.inj (Prod.mk.inj h).2).1, (Prod.mk.inj (Prod.mk.inj h).2).2⟩)
      rfl, ?_⟩
    · rw [results_cell_tmp2 rfl]
      go_simp
      rfl
    · exact set4_at HON.out.bel (Nat.le_refl _)
end Go.Proofs.YtbeoijlkhpbdjaaDoor
namespace Go.Proofs.YtbeoijlkhpbdjaaDoor
open Go.RowKit Go.WideShapes

set_option maxHeartbeats 2000000 in
theorem notLess_any (g g' : Nat) (q : Option Addr) (n c : Nat) (l : List EntV) (x : EntV) (i : Nat) (w : World) (h : EntsL w q n l) (hi : i < l.length) (hg : w.heap[g]? = some (.cells #[.slice q n c] 25 (0, 0))) (hg' : w.heap[g']? = some (.cells #[.string x.key, .string x.val, .int .i64 x.seq, .bool x.gone] 23 (0, 0))) (hn : n ≤ 5000) (r : Bool) (hr : lessE (l.getD i zeroE) x = !r) :
    Calls Tryd.prog 38 #[.int .i64 (i : Int), .pointer (some ⟨g, 0, none⟩), .pointer (some ⟨g', 0, none⟩)] w fun e w' => e = .returned (.bool r) ∧ Below w.heap.size w w' := by
  obtain ⟨b, o, rfl⟩ := h.lies.addr (by omega)
  obtain ⟨y0, y1, y2, y3⟩ := h.lies.at hi
  have hin : i < n := by have := h.n; omega
  have hiI : (i : Int) < (n : Int) := by omega
  have hiI0 : (0 : Int) ≤ (i : Int) := by omega
  have kw0 : IntKind.i64.wrap (i : Int) = (i : Int) := by rw [IntKind.wrap_i64]; omega
  have HLE := fun w' => less_any (l.getD i zeroE) x w'
  obtain ⟨m, hm⟩ : ∃ m, l.getD i zeroE = m := ⟨_, rfl⟩
  rw [hr] at HLE
  rw [hm] at y0 y1 y2 y3 HLE
  obtain ⟨kx, vx, sx, gx⟩ := m
  obtain ⟨ke, ve, se, ge⟩ := x
  simp only at y0 y1 y2 y3 hg'
  simp only [entV_def] at HLE
  obtain ⟨x0, x1, x2, x3⟩ := four_cells hg'
  have c0 : w.cell? ⟨g, 0, none⟩ = some (.slice (some ⟨b, o, none⟩) n c) := Lib.cell_of_heap hg 0
  have HKS : ∀ w', Below w.heap.size w w' → w'.cell? ⟨g, 0, none⟩ = some (.slice (some ⟨b, o, none⟩) n c) ∧ (w'.cell? ⟨g', 0, none⟩ = some (.string ke) ∧ w'.cell? ⟨g', 1, none⟩ = some (.string ve) ∧ w'.cell? ⟨g', 2, none⟩ = some (.int .i64 se) ∧ w'.cell? ⟨g', 3, none⟩ = some (.bool ge)) ∧ (w'.cell? ⟨b, o + i * 4, none⟩ = some (.string kx) ∧ w'.cell? ⟨b, o + i * 4 + 1, none⟩ = some (.string vx) ∧ w'.cell? ⟨b, o + i * 4 + 2, none⟩ = some (.int .i64 sx) ∧ w'.cell? ⟨b, o + i * 4 + 3, none⟩ = some (.bool gx)) ∧ Below w.heap.size w w' := fun w' hb => ⟨(hb.cell (World.block_lt_of_cell? _ _ c0)).trans c0, ⟨(hb.cell (World.block_lt_of_cell? _ _ x0)).trans x0, (hb.cell (World.block_lt_of_cell? _ _ x1)).trans x1, (hb.cell (World.block_lt_of_cell? _ _ x2)).trans x2, (hb.cell (World.block_lt_of_cell? _ _ x3)).trans x3⟩, ⟨(hb.cell (World.block_lt_of_cell? _ _ y0)).trans y0, (hb.cell (World.block_lt_of_cell? _ _ y1)).trans y1, (hb.cell (World.block_lt_of_cell? _ _ y2)).trans y2, (hb.cell (World.block_lt_of_cell? _ _ y3)).trans y3⟩, hb⟩
  have HKSH : Hid (∀ w', Below w.heap.size w w' → w'.cell? ⟨g, 0, none⟩ = some (.slice (some ⟨b, o, none⟩) n c) ∧ (w'.cell? ⟨g', 0, none⟩ = some (.string ke) ∧ w'.cell? ⟨g', 1, none⟩ = some (.string ve) ∧ w'.cell? ⟨g', 2, none⟩ = some (.int .i64 se) ∧ w'.cell? ⟨g', 3, none⟩ = some (.bool ge)) ∧ (w'.cell? ⟨b, o + i * 4, none⟩ = some (.string kx) ∧ w'.cell? ⟨b, o + i * 4 + 1, none⟩ = some (.string vx) ∧ w'.cell? ⟨b, o + i * 4 + 2, none⟩ = some (.int .i64 sx) ∧ w'.cell? ⟨b, o + i * 4 + 3, none⟩ = some (.bool gx)) ∧ Below w.heap.size w w') := HKS
  have HAL : Hid (w.cell? ⟨g, 0, none⟩ = some (.slice (some ⟨b, o, none⟩) n c) ∧ (w.cell? ⟨g', 0, none⟩ = some (.string ke) ∧ w.cell? ⟨g', 1, none⟩ = some (.string ve) ∧ w.cell? ⟨g', 2, none⟩ = some (.int .i64 se) ∧ w.cell? ⟨g', 3, none⟩ = some (.bool ge)) ∧ (w.cell? ⟨b, o + i * 4, none⟩ = some (.string kx) ∧ w.cell? ⟨b, o + i * 4 + 1, none⟩ = some (.string vx) ∧ w.cell? ⟨b, o + i * 4 + 2, none⟩ = some (.int .i64 sx) ∧ w.cell? ⟨b, o + i * 4 + 3, none⟩ = some (.bool gx)) ∧ Below w.heap.size w w) := HKS w (Below.refl _ _)
  clear HKS h hg hg' hm hr hi hin x0 x1 x2 x3 y0 y1 y2 y3 c0 hn
  go_enter Tryd.func38, Tryd.ntmps38
  go_wp2
  go_region_held3 (fun w' => w'.cell? ⟨g, 0, none⟩ = some (.slice (some ⟨b, o, none⟩) n c) ∧ (w'.cell? ⟨g', 0, none⟩ = some (.string ke) ∧ w'.cell? ⟨g', 1, none⟩ = some (.string ve) ∧ w'.cell? ⟨g', 2, none⟩ = some (.int .i64 se) ∧ w'.cell? ⟨g', 3, none⟩ = some (.bool ge)) ∧ (w'.cell? ⟨b, o + i * 4, none⟩ = some (.string kx) ∧ w'.cell? ⟨b, o + i * 4 + 1, none⟩ = some (.string vx) ∧ w'.cell? ⟨b, o + i * 4 + 2, none⟩ = some (.int .i64 sx) ∧ w'.cell? ⟨b, o + i * 4 + 3, none⟩ = some (.bool gx)) ∧ Below w.heap.size w w')
    (with_reducible first | exact HAL.out | exact HKSH.out _ (Below.refl _ _).drew | exact HKSH.out _ (below_dw (by assumption)) | assumption)
    (first
      | (go_at_call 36; refine (HLE _).mono ?_; rintro e w3 ⟨rfl, hb3⟩)
      | fail)
  rename_i hh
  have HB : Hid (Below w.heap.size w w3) := hh.2.2.2
  clear hh hb3
  go_wp2
  go_ret
  exact ⟨by simp, HB.out⟩
set_option maxHeartbeats 2000000 in
theorem search_any (n k : Nat) (p : Nat → Bool) (a b : Value) (w : World) (hn : n ≤ 5000) (hk : k ≤ n) (hlo : ∀ t, t < k → p t = false) (hhi : ∀ t, k ≤ t → t < n → p t = true)
    (hf : ∀ (i : Nat) (w' : World), i < n → Below w.heap.size w w' → Calls Tryd.prog 38 #[.int .i64 (i : Int), a, b] w' fun e w'' => e = .returned (.bool (p i)) ∧ Below w'.heap.size w' w'') :
    Calls Tryd.prog 37 #[.int .i64 (n : Int), .func (.func 38) #[] #[a, b]] w fun e w' => e = .returned (.int .i64 (k : Int)) ∧ Below w.heap.size w w' := by
  have HF : Hid (∀ (i : Nat) (w' : World), i < n → Below w.heap.size w w' → Calls Tryd.prog 38 #[.int .i64 (i : Int), a, b] w' fun e w'' => e = .returned (.bool (p i)) ∧ Below w'.heap.size w' w'') := hf
  have HP : Hid ((∀ t, t < k → p t = false) ∧ ∀ t, k ≤ t → t < n → p t = true) := ⟨hlo, hhi⟩
  have HKN : Hid (k ≤ n) := hk
  have hnI : (n : Int) ≤ 5000 := by omega
  clear hf hlo hhi hk hn
  go_enter Tryd.func37, Tryd.ntmps37
  go_wp2
  go_loopw [5, 6] (fun s5 s6 wr => ∃ lo hi : Nat, s5 = .int .i64 (lo : Int) ∧ s6 = .int .i64 (hi : Int) ∧ lo ≤ k ∧ k ≤ hi ∧ hi ≤ n ∧ Below w.heap.size w wr) (fun s5 s6 _ => (intOf s6 - intOf s5).toNat)
  case atStart => exact ⟨0, n, rfl, rfl, by omega, HKN.out, Nat.le_refl _, Below.refl _ _⟩
  case round =>
    obtain ⟨lo, hi, rfl, rfl, h1, h2, h3, hb⟩ := hrel
    have HH : Hid (lo ≤ k ∧ k ≤ hi ∧ hi ≤ n) := ⟨h1, h2, h3⟩
    have HB : Hid (Below w.heap.size w wr) := hb
    have hhI : (hi : Int) ≤ (n : Int) := by omega
    clear h1 h2 h3 hb
    by_cases hlt : lo < hi
    · have hltI : (lo : Int) < (hi : Int) := by omega
      have HLT : Hid (lo < hi) := hlt
      obtain ⟨md, hmd⟩ : ∃ md : Nat, (lo + hi) / 2 = md := ⟨_, rfl⟩
      have HMD : Hid (lo ≤ md ∧ md < hi) := by show _ ∧ _; omega
      have hmI : ((lo : Int) + (hi : Int)) / 2 = (md : Int) := by omega
      have hc := HF.out md wr (by have := HMD.out; have := HH.out; omega) HB.out
      have hmdI : (md : Int) < (hi : Int) := by have := HMD.out; omega
      have hmdI0 : (0 : Int) ≤ (md : Int) := by omega
      clear hlt hmd
      rcases Nat.lt_or_ge md k with hmk | hmk
      · rw [HP.out.1 md hmk] at hc
        have HMK : Hid (md < k) := hmk
        clear hmk
        rw [← hmI] at hc
        have HMI : Hid (((lo : Int) + (hi : Int)) / 2 = (md : Int)) := hmI
        clear hmI hmdI hmdI0
        go_wp2_with fail
        refine hc.mono ?_
        rintro e w2 ⟨rfl, hb2⟩
        have HB2 : Hid (Below w.heap.size w w2) := below_bt HB.out hb2
        clear hb2 hc
        go_wp2
        go_roundw
        case rel => exact ⟨md + 1, hi, by rw [HMI.out]; go_num, rfl, HMK.out, HH.out.2.1, HH.out.2.2, HB2.out⟩
        case measure => have := HMD.out; have := HMI.out; simp [intOf]; omega
      · rw [HP.out.2 md hmk (by have := HMD.out; have := HH.out; omega)] at hc
        have HMK : Hid (k ≤ md) := hmk
        clear hmk
        rw [← hmI] at hc
        have HMI : Hid (((lo : Int) + (hi : Int)) / 2 = (md : Int)) := hmI
        clear hmI hmdI hmdI0
        go_wp2_with fail
        refine hc.mono ?_
        rintro e w2 ⟨rfl, hb2⟩
        have HB2 : Hid (Below w.heap.size w w2) := below_bt HB.out hb2
        clear hb2 hc
        go_wp2
        go_roundw
        case rel => exact ⟨lo, md, rfl, by rw [HMI.out], HH.out.1, HMK.out, by have := HMD.out; have := HH.out; omega, HB2.out⟩
        case measure => have := HMD.out; have := HMI.out; simp [intOf]; omega
    · have hltI : (hi : Int) ≤ (lo : Int) := by omega
      have HE : Hid (lo = k) := by have := HH.out; show _ = _; omega
      clear hlt
      go_wp2
      go_ret
      exact ⟨by rw [HE.out]; rfl, HB.out⟩
theorem place_mono {l : List EntV} (hr : RiseE l) (x : EntV) : (∀ t, t < placeE l x → lessE (l.getD t zeroE) x = true) ∧ ∀ t, placeE l x ≤ t → t < l.length → lessE (l.getD t zeroE) x = false := by
  have hle := placeE_le l x
  constructor
  · intro t ht
    have h := place_ahead l x (l[t]'(by omega)) (by rw [List.mem_take_iff_getElem]; exact ⟨t, by omega, rfl⟩)
    rw [List.getD_eq_getElem?_getD, List.getElem?_eq_getElem (by omega)]
    exact h
  · intro t h1 h2
    have hp : placeE l x < l.length := by omega
    have h3 := place_at l x hp
    rcases Nat.eq_or_lt_of_le h1 with e | hlt
    · rw [← e]; exact h3
    · rw [Bool.eq_false_iff]
      intro h4
      have h5 := List.pairwise_iff_getElem.1 hr (placeE l x) t hp h2 hlt
      rw [List.getD_eq_getElem?_getD, List.getElem?_eq_getElem h2, Option.getD_some] at h4
      rw [List.getD_eq_getElem?_getD, List.getElem?_eq_getElem hp, Option.getD_some] at h3
      rw [lessE_trans h5 h4] at h3
      cases h3
set_option maxHeartbeats 2000000 in
theorem countAhead_any (q : Option Addr) (n c : Nat) (l : List EntV) (x : EntV) (w : World) (h : EntsL w q n l) (hr : RiseE l) (hlen : l.length ≤ 4096) (k : Nat) (hk : placeE l x = k) :
    Calls Tryd.prog 23 #[.slice q n c, entV x] w fun e w' => e = .returned (.int .i64 (k : Int)) ∧ Below w.heap.size w w' := by
  have hm := place_mono hr x
  rw [hk] at hm
  have hle := placeE_le l x
  rw [hk] at hle
  have hb2 : Below w.heap.size w ((w.alloc (.cells #[.slice q n c] 25)).alloc (.cells #[.string x.key, .string x.val, .int .i64 x.seq, .bool x.gone] 23)) := below_bt (below_alloc _ _) (below_alloc _ _)
  have HSR := search_any n k (fun t => !lessE (l.getD t zeroE) x) (.pointer (some ⟨w.heap.size, 0, none⟩)) (.pointer (some ⟨w.heap.size + 1, 0, none⟩)) ((w.alloc (.cells #[.slice q n c] 25)).alloc (.cells #[.string x.key, .string x.val, .int .i64 x.seq, .bool x.gone] 23)) (by have := h.n; omega) (by have := h.n; omega) (fun t ht => by simp only [hm.1 t ht]; rfl) (fun t h1 h2 => by simp only [hm.2 t h1 (by have := h.n; omega)]; rfl)
    (fun i w' hi hb => notLess_any w.heap.size (w.heap.size + 1) q n c l x i w' (h.below (below_bt hb2 hb)) (by have := h.n; omega) (block_below' (block_below' (heap_alloc_new _ _) (below_alloc _ _)) hb) (block_below' (heap_two _ _ _) hb) (by have := h.n; omega) _ (by simp))
  have HB2 : Hid (Below w.heap.size w ((w.alloc (.cells #[.slice q n c] 25)).alloc (.cells #[.string x.key, .string x.val, .int .i64 x.seq, .bool x.gone] 23))) := hb2
  obtain ⟨ke, ve, se, ge⟩ := x
  rw [entV_def]
  simp only at HSR HB2
  clear h hr hlen hm hk hle hb2
  go_enter Tryd.func23, Tryd.ntmps23
  go_wp2_with fail
  refine HSR.mono ?_
  rintro e w2 ⟨rfl, hb⟩
  have HB : Hid (Below w.heap.size w w2) := below_bt HB2.out hb
  clear hb HSR HB2
  go_wp2
  go_ret
  exact ⟨rfl, HB.out⟩
end Go.Proofs.YtbeoijlkhpbdjaaDoor
namespace Go.Proofs.YtbeoijlkhpbdjaaDoor
open Go.RowKit Go.WideShapes

theorem zeros_own (w : World) (n : Nat) (h1 : 1 ≤ n) (h2 : n ≤ 10000) : ∃ c v' w', (Builtin.append_ #[25, 3] 25 #[.slice none 0 0, .int .i64 (n : Int)]).run Tryd.prog w = .ok v' w' ∧ v' = .slice (some ⟨w.heap.size, 0, none⟩) n c ∧ n ≤ c ∧ c ≤ maxLen ∧ OnB w (.slice (some ⟨w.heap.size, 0, none⟩) 0 c) [] w' := by
  obtain ⟨i0, hi, hz0, hz1, hz2⟩ := info_parts' info_entry
  have hr := Lib.run_append_nil_zeros (P := Tryd.prog) w 25 3 25 23 i0 _ .i64 .i64 Tryd.underlying25 Tryd.underlying3 hi hz0 n (by omega) (by omega) (by omega) (by rw [hz2]; omega)
  have hge := grownCap_ge w n 0 23
  have hle := grownCap_le_maxLen w n 0 23 (by unfold maxLen; omega)
  refine ⟨grownCap w n 0 23, _, _, hr, rfl, hge, hle, ?_, ((Below.refl _ _).drew).alloc (by simp) _⟩
  refine ⟨rfl, .inr ⟨w.heap.size, grownCap w n 0 23, _, rfl, Nat.le_refl _, heap_alloc_new w.drew _, Nat.zero_le _, hle, ?_, by simp [cellsE]⟩⟩
  rw [Array.size_append, size_zeroCells, size_zeroCells]
  simp only [Value.cells]
  show n * 4 + (grownCap w n 0 23 - n) * 4 = _
  omega
set_option maxHeartbeats 1000000 in
theorem grow_any (n : Nat) (w : World) (h1 : 1 ≤ n) (h2 : n ≤ 10000) :
    Calls Tryd.prog 39 #[.slice none 0 0, .int .i64 (n : Int)] w fun e w' => ∃ c, e = .returned (.slice (some ⟨w.heap.size, 0, none⟩) 0 c) ∧ OnB w (.slice (some ⟨w.heap.size, 0, none⟩) 0 c) [] w' := by
  obtain ⟨c, v', w', hr, hv, hn, hc, hon⟩ := zeros_own w n h1 h2
  have HON : Hid (OnB w (.slice (some ⟨w.heap.size, 0, none⟩) 0 c) [] w') := hon
  have hnI : (1 : Int) ≤ (n : Int) := by omega
  have hnI2 : (n : Int) ≤ 10000 := by omega
  have hcI : (n : Int) ≤ (c : Int) := by omega
  subst hv
  clear hon h1 h2 hn hc
  go_enter Tryd.func39, Tryd.ntmps39
  go_wp2_with (at_builtin; refine Lib.wpList_append_run _ rfl _ _ _ _ rfl _ _ rfl rfl _ _ hr ?_)
  go_ret
  exact ⟨c, rfl, HON.out⟩
theorem OnB.two {w wr w' : World} {v v' : Value} {l l' : List EntV} (h : OnB w v l wr) (ho : EOwn w' w.heap.size v' (l ++ l')) (hg : wr.grownBy w' v.ownBlock) : OnB w v' (l ++ l') w' :=
  ⟨ho, h.bel.grown hg h.bel.size (fun k hk => (World.ownsRow.lt h.own k hk).1)⟩
set_option maxHeartbeats 2000000 in
theorem concat_any (g : Nat) (q1 q2 q3 : Option Addr) (n1 n2 n3 c1 c2 c3 : Nat) (l1 l2 l3 : List EntV) (w : World) (hg : w.heap[g]? = some (.cells #[.slice q1 n1 c1, .slice q2 n2 c2, .slice q3 n3 c3] 25 (0, 0))) (h1 : EntsL w q1 n1 l1) (h2 : EntsL w q2 n2 l2) (h3 : EntsL w q3 n3 l3) (z1 : q1 = none → c1 = 0) (z2 : q2 = none → c2 = 0) (z3 : q3 = none → c3 = 0) (hs : 1 ≤ n1 + n2 + n3) (hm : n1 + n2 + n3 ≤ 5000) :
    Calls Tryd.prog 25 #[.slice (some ⟨g, 0, none⟩) 3 3] w fun e w' => ∃ v, e = .returned v ∧ OnB w v (l1 ++ l2 ++ l3) w' := by
  have g0 : w.cell? ⟨g, 0, none⟩ = some (.slice q1 n1 c1) := Lib.cell_of_heap hg 0
  have g1 : w.cell? ⟨g, 1, none⟩ = some (.slice q2 n2 c2) := Lib.cell_of_heap hg 1
  have g2 : w.cell? ⟨g, 2, none⟩ = some (.slice q3 n3 c3) := Lib.cell_of_heap hg 2
  have HG : Hid (w.heap[g]? = some (.cells #[.slice q1 n1 c1, .slice q2 n2 c2, .slice q3 n3 c3] 25 (0, 0))) := hg
  obtain ⟨N, hN⟩ : ∃ N : Nat, n1 + n2 + n3 = N := ⟨_, rfl⟩
  have HGR := grow_any N w (by omega) (by omega)
  have HL : Hid (n1 = l1.length ∧ n2 = l2.length ∧ n3 = l3.length ∧ n1 + n2 + n3 ≤ 5000) := ⟨h1.n, h2.n, h3.n, hm⟩
  have H1 : Hid (EntsL w q1 n1 l1) := h1
  have H2 : Hid (EntsL w q2 n2 l2) := h2
  have H3 : Hid (EntsL w q3 n3 l3) := h3
  have HZ : Hid ((q1 = none → c1 = 0) ∧ (q2 = none → c2 = 0) ∧ (q3 = none → c3 = 0)) := ⟨z1, z2, z3⟩
  have b1 : (n1 : Int) ≤ 5000 := by omega
  have b2 : (n1 : Int) + (n2 : Int) ≤ 5000 := by omega
  have b3 : (n1 : Int) + (n2 : Int) + (n3 : Int) ≤ 5000 := by omega
  have hNI : (n1 : Int) + (n2 : Int) + (n3 : Int) = (N : Int) := by omega
  rw [← hNI] at HGR
  clear hg h1 h2 h3 z1 z2 z3 hs hm hN hNI
  go_enter Tryd.func25, Tryd.ntmps25
  go_wp2
  refine wp_loop_rounds 4 ?_
  iterate 3 (rw [rounds_succ]; go_wp2)
  rw [rounds_succ]
  go_wp2_with fail
  refine HGR.mono ?_
  rintro e w2 ⟨c, rfl, hon⟩
  have HON : Hid (OnB w (.slice (some ⟨w.heap.size, 0, none⟩) 0 c) [] w2) := hon
  have HC : Hid (∀ u, Below w.heap.size w u → u.cell? ⟨g, 0, none⟩ = some (.slice q1 n1 c1) ∧ u.cell? ⟨g, 1, none⟩ = some (.slice q2 n2 c2) ∧ u.cell? ⟨g, 2, none⟩ = some (.slice q3 n3 c3)) := fun u hb => ⟨Lib.cell_of_heap (block_below' HG.out hb) 0, Lib.cell_of_heap (block_below' HG.out hb) 1, Lib.cell_of_heap (block_below' HG.out hb) 2⟩
  clear g0 g1 g2 hon HGR
  obtain ⟨g0, g1, g2⟩ := HC.out w2 HON.out.bel
  go_wp2
  refine wp_loop_rounds 4 ?_
  rw [rounds_succ]
  go_wp2_with (at_builtin; go_loud (refine wpList_append_two _ rfl _ _ rfl w.heap.size (.slice (some ⟨w.heap.size, 0, none⟩) 0 c) [] l1 q1 n1 c1 rfl rfl HL.out.1 HON.out.own (H1.out.lies.below HON.out.bel) HZ.out.1 (by have := HL.out; simp only [List.length_nil]; omega) HON.out.bel.size ?_); intro va ua hoa hga; have HO1 : Hid (OnB w va ([] ++ l1) ua) := HON.out.two hoa hga; obtain ⟨g0, g1, g2⟩ := HC.out ua HO1.out.bel; clear hoa hga)
  rw [rounds_succ]
  go_wp2_with (at_builtin; go_loud (refine wpList_append_two _ rfl _ _ rfl w.heap.size va ([] ++ l1) l2 q2 n2 c2 rfl rfl HL.out.2.1 HO1.out.own (H2.out.lies.below HO1.out.bel) HZ.out.2.1 (by have := HL.out; simp only [List.length_append, List.length_nil]; omega) HO1.out.bel.size ?_); intro vb ub hob hgb; have HO2 : Hid (OnB w vb ([] ++ l1 ++ l2) ub) := HO1.out.two hob hgb; obtain ⟨g0, g1, g2⟩ := HC.out ub HO2.out.bel; clear hob hgb)
  rw [rounds_succ]
  go_wp2_with (at_builtin; go_loud (refine wpList_append_two _ rfl _ _ rfl w.heap.size vb ([] ++ l1 ++ l2) l3 q3 n3 c3 rfl rfl HL.out.2.2.1 HO2.out.own (H3.out.lies.below HO2.out.bel) HZ.out.2.2 (by have := HL.out; simp only [List.length_append, List.length_nil]; omega) HO2.out.bel.size ?_); intro vc uc hoc hgc; have HO3 : Hid (OnB w vc ([] ++ l1 ++ l2 ++ l3) uc) := HO2.out.two hoc hgc; clear hoc hgc)
  rw [rounds_succ]
  go_wp2
  go_ret
  exact ⟨vc, rfl, by have h := HO3.out; rw [List.nil_append] at h; exact h⟩
end Go.Proofs.YtbeoijlkhpbdjaaDoor
namespace Go.Proofs.YtbeoijlkhpbdjaaDoor
open Go.RowKit Go.WideShapes

theorem EntsIn.take' {w : World} {q : Option Addr} {l : List EntV} (h : EntsIn w q l) (k : Nat) : EntsIn w q (l.take k) := by
  intro hp
  rw [List.length_take] at hp
  obtain ⟨b, o, e, hc⟩ := h (by omega)
  refine ⟨b, o, e, fun i hi => ?_⟩
  rw [List.length_take] at hi
  have := hc i (by omega)
  rw [show (l.take k).getD i zeroE = l.getD i zeroE by rw [List.getD_eq_getElem?_getD, List.getElem?_take_of_lt (by omega), ← List.getD_eq_getElem?_getD]]
  exact this
theorem EntsIn.drop' {w : World} {b o : Nat} {l : List EntV} (h : EntsIn w (some ⟨b, o, none⟩) l) (k : Nat) : EntsIn w (some ⟨b, o + k * 4, none⟩) (l.drop k) := by
  intro hp
  rw [List.length_drop] at hp
  refine ⟨b, o + k * 4, rfl, fun i hi => ?_⟩
  rw [List.length_drop] at hi
  obtain ⟨c0, c1, c2, c3⟩ := h.at (k := k + i) (by omega)
  rw [show (l.drop k).getD i zeroE = l.getD (k + i) zeroE by rw [List.getD_eq_getElem?_getD, List.getElem?_drop, ← List.getD_eq_getElem?_getD]]
  exact ⟨by rw [show o + k * 4 + i * 4 = o + (k + i) * 4 by omega]; exact c0, by rw [show o + k * 4 + (i * 4 + 1) = o + (k + i) * 4 + 1 by omega]; exact c1, by rw [show o + k * 4 + (i * 4 + 2) = o + (k + i) * 4 + 2 by omega]; exact c2, by rw [show o + k * 4 + (i * 4 + 3) = o + (k + i) * 4 + 3 by omega]; exact c3⟩
theorem cutE_to (q : Option Addr) (n c k : Nat) (hc : n ≤ c) (hk : k ≤ n) (w : World) : (Instr.slice 25 (.slice q n c) none (some (.int .i64 (k : Int))) none).run Tryd.prog w = .ok (.slice q k c) w := by
  rw [run_slice_h w 25 q n c (by kernel_rfl) .i64 k (by omega) (by omega)]
  have hs : (sizeOf (Tryd.prog.elem 25)).run Tryd.prog w = .ok 4 w := by kernel_rfl
  rw [hs]
  cases q with
  | none => simp [Result.andThen, sliced]
  | some a => simp [Result.andThen, sliced, Addr.add]
theorem cutE_from (q : Option Addr) (n c k : Nat) (l : List EntV) (hn : n = l.length) (hc : n ≤ c) (hk : k ≤ n) (hp : q = none → c = 0) :
    ∃ p', (∀ w, (Instr.slice 25 (.slice q n c) (some (.int .i64 (k : Int))) none none).run Tryd.prog w = .ok (.slice p' (n - k) (c - k)) w) ∧ (∀ w, EntsIn w q l → EntsIn w p' (l.drop k)) ∧ (p' = none → c - k = 0) := by
  have hr : ∀ w, (Instr.slice 25 (.slice q n c) (some (.int .i64 k)) none none).run Tryd.prog w = .ok (.slice (if c = k then q else q.map (·.add (k * 4))) (n - k) (c - k)) w := by
    intro w
    rw [run_slice_l w 25 q n c (by kernel_rfl) .i64 k (by omega) (by omega)]
    have hs : (sizeOf (Tryd.prog.elem 25)).run Tryd.prog w = .ok 4 w := by kernel_rfl
    rw [hs]
    rfl
  cases q with
  | none =>
    have hc0 := hp rfl
    have : k = 0 := by omega
    subst this
    exact ⟨_, hr, fun w h => by rw [List.drop_zero, if_pos hc0]; exact h, fun _ => by omega⟩
  | some a =>
    refine ⟨_, hr, fun w h => ?_, fun h => by split at h <;> simp at h⟩
    rcases Nat.eq_zero_or_pos (l.length - k) with h0 | h0
    · intro hp2
      rw [List.length_drop] at hp2
      omega
    · obtain ⟨b, o, e, _⟩ := h (by omega)
      simp only [Option.some.injEq] at e
      subst e
      rw [if_neg (by omega), Option.map_some, add_plain]
      exact h.drop' k
theorem sameL {l : List EntV} {x : EntV} : (placeE l x < l.length ∧ sameE (l.getD (placeE l x) zeroE) x = true) = (placeE l x < l.length ∧ lessE x (l.getD (placeE l x) zeroE) = false) := by
  refine propext ⟨?_, ?_⟩
  · rintro ⟨a, b⟩
    refine ⟨a, ?_⟩
    unfold sameE at b
    simp only [Bool.and_eq_true, decide_eq_true_eq] at b
    exact lessE_same ⟨b.1.symm, b.2.symm⟩
  · rintro ⟨a, b⟩
    refine ⟨a, ?_⟩
    have := lessE_tri (place_at l x a) b
    unfold sameE
    simp only [Bool.and_eq_true, decide_eq_true_eq]
    exact this
theorem fCheck_any (q : Option Addr) (n c : Nat) (l : List EntV) (w : World) (h : EntsL w q n l) (C : Nat) (hC : checkE l = C) :
    Calls Tryd.prog 21 #[.slice q n c] w fun e w' => e = .returned (.int .i64 (C : Int)) ∧ Below w.heap.size w w' := by
  have H := Check_any q n c l w h C hC
  clear h hC
  go_enter Tryd.func21, Tryd.ntmps21
  go_wp2_with fail
  refine H.mono ?_
  rintro e w2 ⟨rfl, hb⟩
  have HB : Hid (Below w.heap.size w w2) := hb
  clear hb H
  go_wp2
  go_ret
  exact ⟨rfl, HB.out⟩
set_option maxRecDepth 8000 in
set_option maxHeartbeats 4000000 in
theorem put_any (q : Option Addr) (n c : Nat) (l : List EntV) (x : EntV) (w : World) (h : EntsL w q n l) (hnc : n ≤ c) (hqn : q = none → c = 0) (l' : List EntV) (E : Nat) (hR : putE l x = (l', E)) :
    Calls Tryd.prog 10 #[.slice q n c, entV x] w fun e w' => (∃ uq uc, e = .returned (.tuple #[.slice uq l'.length uc, .int .i64 (E : Int)]) ∧ EOwn w' w.heap.size (.slice uq l'.length uc) l') ∧ Below w.heap.size w w' := by
  have HQ : Hid (EntsIn w q l) := h.lies
  have HN : Hid (n = l.length) := h.n
  have HNC : Hid (n ≤ c) := hnc
  have HQN : Hid (q = none → c = 0) := hqn
  have HRE : Hid (putE l x = (l', E)) := hR
  obtain ⟨C, hC⟩ : ∃ C, checkE l = C := ⟨_, rfl⟩
  obtain ⟨O, hO⟩ : ∃ O, oneE x = O := ⟨_, rfl⟩
  obtain ⟨k, hk⟩ : ∃ k, placeE l x = k := ⟨_, rfl⟩
  have HC : Hid (checkE l = C) := hC
  have HO : Hid (oneE x = O) := hO
  have HK : Hid (placeE l x = k) := hk
  have HKN : Hid (k ≤ n) := by have := placeE_le l x; show _ ≤ _; have h2 := h.n; omega
  have HCK := fun w' hb => fCheck_any q n c l w' (h.below hb) C hC
  have H1 := fun w' => checkOne_any x w' O hO
  have HCA := fun w' (hb : Below w.heap.size w w') (h0 : C = 0) => countAhead_any q n c l x w' (h.below hb) ((checkE_rise l).1 (hC.trans h0)).2.2 ((checkE_rise l).1 (hC.trans h0)).1 k hk
  have HINS : Hid (insE l x = l.take k ++ [x] ++ l.drop k) := by show _ = _; unfold insE; rw [hk]; simp
  obtain ⟨ke, ve, se, ge⟩ := x
  simp only [entV_def] at H1 HCA ⊢
  clear h hnc hqn hR hC hO hk
  have HXB : Hid ((w.alloc (.cells #[.string ke, .string ve, .int .i64 se, .bool ge] 23)).heap[w.heap.size]? = some (.cells #[.string ke, .string ve, .int .i64 se, .bool ge] 23 (0, 0))) := heap_alloc_new _ _
  go_enter Tryd.func10, Tryd.ntmps10
  go_wp2_with fail
  refine (HCK _ (below_alloc _ _)).mono ?_
  rintro e w2 ⟨rfl, hb2⟩
  have HB2 : Hid (Below w.heap.size w w2) := below_bt (below_alloc _ _) hb2
  have HX2 : Hid (w2.heap[w.heap.size]? = some (.cells #[.string ke, .string ve, .int .i64 se, .bool ge] 23 (0, 0))) := block_below' HXB.out hb2
  clear hb2 HCK HXB
  rcases Nat.eq_zero_or_pos C with h0 | h0
  · subst h0
    have HLE4 : Hid (n ≤ 4096) := by have := ((checkE_rise l).1 HC.out).1; have h2 := HN.out; show _ ≤ _; omega
    obtain ⟨x0, x1, x2, x3⟩ := four_cells HX2.out
    go_wp2_with fail
    refine (H1 _).mono ?_
    rintro e w3 ⟨rfl, hb3⟩
    have HB3 : Hid (Below w.heap.size w w3) := below_bt HB2.out hb3
    have HX3 : Hid (w3.heap[w.heap.size]? = some (.cells #[.string ke, .string ve, .int .i64 se, .bool ge] 23 (0, 0))) := block_below' HX2.out hb3
    clear hb3 H1 x0 x1 x2 x3
    rcases Nat.eq_zero_or_pos O with h0 | h0
    · subst h0
      obtain ⟨x0, x1, x2, x3⟩ := four_cells HX3.out
      have hca := HCA w3 HB3.out (by first | exact rfl | trivial)
      clear HCA
      go_wp2_with fail
      refine hca.mono ?_
      rintro e w4 ⟨rfl, hb4⟩
      have HB4 : Hid (Below w.heap.size w w4) := below_bt HB3.out hb4
      have HX4 : Hid (w4.heap[w.heap.size]? = some (.cells #[.string ke, .string ve, .int .i64 se, .bool ge] 23 (0, 0))) := block_below' HX3.out hb4
      clear hb4 hca x0 x1 x2 x3
      have HCUT : Hid ((∀ w, (Instr.slice 25 (.slice q n c) none (some (.int .i64 (k : Int))) none).run Tryd.prog w = .ok (.slice q k c) w) ∧ True ∧ (∀ w, EntsIn w q l → EntsIn w q (l.take k)) ∧ ∃ p' m d, (∀ w, (Instr.slice 25 (.slice q n c) (some (.int .i64 (k : Int))) none none).run Tryd.prog w = .ok (.slice p' m d) w) ∧ (∀ w, EntsIn w q l → EntsIn w p' (l.drop k)) ∧ (p' = none → d = 0) ∧ m = n - k) := by
        have a1 := HNC.out; have a2 := HKN.out
        obtain ⟨p', e1, e2, e3⟩ := cutE_from q n c k l HN.out a1 a2 HQN.out
        exact ⟨cutE_to q n c k a1 a2, trivial, fun w h => h.take' k, p', n - k, c - k, e1, e2, e3, rfl⟩
      have kb0 : (0 : Int) ≤ (k : Int) := by omega
      have kw0 : IntKind.i64.wrap (k : Int) = (k : Int) := by rw [IntKind.wrap_i64]; have a2 := HKN.out; have a3 := HLE4.out; omega
      by_cases hkn : k < n
      · have hkI : (k : Int) < (n : Int) := by omega
        have hkD : decide (k < n) = true := decide_eq_true hkn
        obtain ⟨b, o, rfl⟩ := HQ.out.addr (by have := HN.out; omega)
        obtain ⟨y0, y1, y2, y3⟩ := (HQ.out.below HB4.out).at (k := k) (by have := HN.out; omega)
        obtain ⟨mE, hm⟩ : ∃ mE, l.getD k zeroE = mE := ⟨_, rfl⟩
        rw [hm] at y0 y1 y2 y3
        obtain ⟨r, hr⟩ : ∃ r, sameE mE ⟨ke, ve, se, ge⟩ = r := ⟨_, rfl⟩
        have HSA := fun w' => same_any mE ⟨ke, ve, se, ge⟩ w' r hr
        have HSM : Hid ((placeE l ⟨ke, ve, se, ge⟩ < l.length ∧ lessE ⟨ke, ve, se, ge⟩ (l.getD (placeE l ⟨ke, ve, se, ge⟩) zeroE) = false) ↔ r = true) := by
          show _ ↔ _
          rw [← sameL, HK.out, hm, hr]
          exact ⟨fun h => h.2, fun h => ⟨by have := HN.out; omega, h⟩⟩
        clear hm hr hkn
        obtain ⟨kx, vx, sx, gx⟩ := mE
        simp only at y0 y1 y2 y3
        simp only [entV_def] at HSA
        have HKS : ∀ w', Below w4.heap.size w4 w' → (w'.cell? ⟨b, o + k * 4, none⟩ = some (.string kx) ∧ w'.cell? ⟨b, o + k * 4 + 1, none⟩ = some (.string vx) ∧ w'.cell? ⟨b, o + k * 4 + 2, none⟩ = some (.int .i64 sx) ∧ w'.cell? ⟨b, o + k * 4 + 3, none⟩ = some (.bool gx)) ∧ (w'.cell? ⟨w.heap.size, 0, none⟩ = some (.string ke) ∧ w'.cell? ⟨w.heap.size, 1, none⟩ = some (.string ve) ∧ w'.cell? ⟨w.heap.size, 2, none⟩ = some (.int .i64 se) ∧ w'.cell? ⟨w.heap.size, 3, none⟩ = some (.bool ge)) ∧ Below w4.heap.size w4 w' := fun w' hb => by
          obtain ⟨q0, q1, q2, q3⟩ := four_cells (block_below' HX4.out hb)
          exact ⟨⟨(hb.cell (World.block_lt_of_cell? _ _ y0)).trans y0, (hb.cell (World.block_lt_of_cell? _ _ y1)).trans y1, (hb.cell (World.block_lt_of_cell? _ _ y2)).trans y2, (hb.cell (World.block_lt_of_cell? _ _ y3)).trans y3⟩, ⟨q0, q1, q2, q3⟩, hb⟩
        have HKSH : Hid (∀ w', Below w4.heap.size w4 w' → (w'.cell? ⟨b, o + k * 4, none⟩ = some (.string kx) ∧ w'.cell? ⟨b, o + k * 4 + 1, none⟩ = some (.string vx) ∧ w'.cell? ⟨b, o + k * 4 + 2, none⟩ = some (.int .i64 sx) ∧ w'.cell? ⟨b, o + k * 4 + 3, none⟩ = some (.bool gx)) ∧ (w'.cell? ⟨w.heap.size, 0, none⟩ = some (.string ke) ∧ w'.cell? ⟨w.heap.size, 1, none⟩ = some (.string ve) ∧ w'.cell? ⟨w.heap.size, 2, none⟩ = some (.int .i64 se) ∧ w'.cell? ⟨w.heap.size, 3, none⟩ = some (.bool ge)) ∧ Below w4.heap.size w4 w') := HKS
        have HAL : Hid ((w4.cell? ⟨b, o + k * 4, none⟩ = some (.string kx) ∧ w4.cell? ⟨b, o + k * 4 + 1, none⟩ = some (.string vx) ∧ w4.cell? ⟨b, o + k * 4 + 2, none⟩ = some (.int .i64 sx) ∧ w4.cell? ⟨b, o + k * 4 + 3, none⟩ = some (.bool gx)) ∧ (w4.cell? ⟨w.heap.size, 0, none⟩ = some (.string ke) ∧ w4.cell? ⟨w.heap.size, 1, none⟩ = some (.string ve) ∧ w4.cell? ⟨w.heap.size, 2, none⟩ = some (.int .i64 se) ∧ w4.cell? ⟨w.heap.size, 3, none⟩ = some (.bool ge)) ∧ Below w4.heap.size w4 w4) := HKS w4 (Below.refl _ _)
        clear HKS y0 y1 y2 y3
        go_wp2
        go_region_held3 (fun w' => (w'.cell? ⟨b, o + k * 4, none⟩ = some (.string kx) ∧ w'.cell? ⟨b, o + k * 4 + 1, none⟩ = some (.string vx) ∧ w'.cell? ⟨b, o + k * 4 + 2, none⟩ = some (.int .i64 sx) ∧ w'.cell? ⟨b, o + k * 4 + 3, none⟩ = some (.bool gx)) ∧ (w'.cell? ⟨w.heap.size, 0, none⟩ = some (.string ke) ∧ w'.cell? ⟨w.heap.size, 1, none⟩ = some (.string ve) ∧ w'.cell? ⟨w.heap.size, 2, none⟩ = some (.int .i64 se) ∧ w'.cell? ⟨w.heap.size, 3, none⟩ = some (.bool ge)) ∧ Below w4.heap.size w4 w')
          (with_reducible first | exact HAL.out | exact HKSH.out _ (Below.refl _ _).drew | exact HKSH.out _ (below_dw (by assumption)) | assumption)
          (first
            | (go_at_call 24; refine (HSA _).mono ?_; rintro e w5 ⟨rfl, hb5⟩)
            | fail)
        rename_i hh
        have HB5 : Hid (Below w.heap.size w w5) := below_bt HB4.out hh.2.2
        have HX5 : Hid (w5.heap[w.heap.size]? = some (.cells #[.string ke, .string ve, .int .i64 se, .bool ge] 23 (0, 0))) := block_below' HX4.out hh.2.2
        clear hh hb5 HKSH HAL HSA
        cases r with
        | true =>
          have HE : Hid (l' = [] ∧ E = 100) := by
            have h := HRE.out
            unfold putE at h
            rw [if_neg (by simp [HC.out]), if_neg (by simp [HO.out]), if_pos (HSM.out.2 rfl)] at h
            exact ⟨(Prod.mk.inj h).1.symm, (Prod.mk.inj h).2.symm⟩
          go_wp2
          go_ret2
          exact ⟨⟨none, 0, by rw [HE.out.1, HE.out.2]; rfl, by rw [HE.out.1]; exact eown_nil _ _⟩, HB5.out⟩
        | false =>
          have HNS : Hid (¬ (placeE l ⟨ke, ve, se, ge⟩ < l.length ∧ lessE ⟨ke, ve, se, ge⟩ (l.getD (placeE l ⟨ke, ve, se, ge⟩) zeroE) = false)) := fun h => by have := HSM.out.1 h; cases this
          generalize (some ⟨b, o, none⟩ : Option Addr) = q at *
          by_cases hmany : n = 4096
          · have HE : Hid (l' = [] ∧ E = 4) := by
              have h := HRE.out
              unfold putE at h
              rw [if_neg (by simp [HC.out]), if_neg (by simp [HO.out]), if_neg HNS.out, if_pos (by have := HN.out; omega)] at h
              exact ⟨(Prod.mk.inj h).1.symm, (Prod.mk.inj h).2.symm⟩
            have hmI : ((n : Int) == 4096) = true := by rw [hmany]; rfl
            clear hmany
            go_wp2
            go_ret2
            exact ⟨⟨none, 0, by rw [HE.out.1, HE.out.2]; rfl, by rw [HE.out.1]; exact eown_nil _ _⟩, HB5.out⟩
          · have hmI : ((n : Int) == 4096) = false := by simp; omega
            have HNM : Hid (n < 4096) := by have := HLE4.out; show _ < _; omega
            have HE : Hid (l' = insE l ⟨ke, ve, se, ge⟩ ∧ E = 0) := by
              have h := HRE.out
              unfold putE at h
              rw [if_neg (by simp [HC.out]), if_neg (by simp [HO.out]), if_neg HNS.out, if_neg (by have := HN.out; have := HNM.out; omega)] at h
              exact ⟨(Prod.mk.inj h).1.symm, (Prod.mk.inj h).2.symm⟩
            clear hmany
            have HKS : ∀ w', Below w5.heap.size w5 w' → (w'.cell? ⟨w.heap.size, 0, none⟩ = some (.string ke) ∧ w'.cell? ⟨w.heap.size, 1, none⟩ = some (.string ve) ∧ w'.cell? ⟨w.heap.size, 2, none⟩ = some (.int .i64 se) ∧ w'.cell? ⟨w.heap.size, 3, none⟩ = some (.bool ge)) ∧ Below w5.heap.size w5 w' := fun w' hb => by
              obtain ⟨q0, q1, q2, q3⟩ := four_cells (block_below' HX5.out hb)
              exact ⟨⟨q0, q1, q2, q3⟩, hb⟩
            have HKSH : Hid (∀ w', Below w5.heap.size w5 w' → (w'.cell? ⟨w.heap.size, 0, none⟩ = some (.string ke) ∧ w'.cell? ⟨w.heap.size, 1, none⟩ = some (.string ve) ∧ w'.cell? ⟨w.heap.size, 2, none⟩ = some (.int .i64 se) ∧ w'.cell? ⟨w.heap.size, 3, none⟩ = some (.bool ge)) ∧ Below w5.heap.size w5 w') := HKS
            have HAL : Hid ((w5.cell? ⟨w.heap.size, 0, none⟩ = some (.string ke) ∧ w5.cell? ⟨w.heap.size, 1, none⟩ = some (.string ve) ∧ w5.cell? ⟨w.heap.size, 2, none⟩ = some (.int .i64 se) ∧ w5.cell? ⟨w.heap.size, 3, none⟩ = some (.bool ge)) ∧ Below w5.heap.size w5 w5) := HKS w5 (Below.refl _ _)
            clear HKS
            obtain ⟨r0, r1, r2, r3⟩ := HCUT.out
            obtain ⟨M, hM⟩ : ∃ M, l.take k ++ [(⟨ke, ve, se, ge⟩ : EntV)] ++ l.drop k = M := ⟨_, rfl⟩
            have HM : Hid (l.take k ++ [(⟨ke, ve, se, ge⟩ : EntV)] ++ l.drop k = M) := hM
            obtain ⟨p', m, d, hcf, hcin, hcz, hm⟩ := r3
            have hcc : ∀ W, Below w5.heap.size w5 W → Calls Tryd.prog 25 #[.slice (some ⟨W.heap.size + 1, 0, none⟩) 3 3] ((W.alloc (.cells #[.string ke, .string ve, .int .i64 se, .bool ge] 23)).alloc (.cells #[.slice q k c, .slice (some ⟨W.heap.size, 0, none⟩) 1 1, .slice p' m d] 25)) fun e w' => ∃ v, e = .returned v ∧ OnB ((W.alloc (.cells #[.string ke, .string ve, .int .i64 se, .bool ge] 23)).alloc (.cells #[.slice q k c, .slice (some ⟨W.heap.size, 0, none⟩) 1 1, .slice p' m d] 25)) v M w' := fun W hW => by
              have hin : EntsIn _ q l := HQ.out.below (below_bt (below_bt HB5.out hW) (below_bt (below_alloc W (.cells #[.string ke, .string ve, .int .i64 se, .bool ge] 23)) (below_alloc _ (.cells #[.slice q k c, .slice (some ⟨W.heap.size, 0, none⟩) 1 1, .slice p' m d] 25))))
              rw [← hM]
              exact concat_any (W.heap.size + 1) q (some ⟨W.heap.size, 0, none⟩) p' k 1 m c 1 d (l.take k) [⟨ke, ve, se, ge⟩] (l.drop k) _ (heap_two _ _ _) ⟨by rw [List.length_take]; have := HN.out; have := HKN.out; omega, r2 _ hin⟩ (ents_box (block_below' (heap_alloc_new _ _) (below_alloc _ _))) ⟨by rw [List.length_drop]; have := HN.out; omega, hcin _ hin⟩ HQN.out (fun h => by cases h) hcz (by omega) (by have := HNM.out; have := HKN.out; omega)
            have HCC : Hid (∀ W, Below w5.heap.size w5 W → Calls Tryd.prog 25 #[.slice (some ⟨W.heap.size + 1, 0, none⟩) 3 3] ((W.alloc (.cells #[.string ke, .string ve, .int .i64 se, .bool ge] 23)).alloc (.cells #[.slice q k c, .slice (some ⟨W.heap.size, 0, none⟩) 1 1, .slice p' m d] 25)) fun e w' => ∃ v, e = .returned v ∧ OnB ((W.alloc (.cells #[.string ke, .string ve, .int .i64 se, .bool ge] 23)).alloc (.cells #[.slice q k c, .slice (some ⟨W.heap.size, 0, none⟩) 1 1, .slice p' m d] 25)) v M w') := hcc
            clear hcc hcin hcz hm r1 r2 hM
            go_wp2
            go_region_held3 (fun w' => (w'.cell? ⟨w.heap.size, 0, none⟩ = some (.string ke) ∧ w'.cell? ⟨w.heap.size, 1, none⟩ = some (.string ve) ∧ w'.cell? ⟨w.heap.size, 2, none⟩ = some (.int .i64 se) ∧ w'.cell? ⟨w.heap.size, 3, none⟩ = some (.bool ge)) ∧ Below w5.heap.size w5 w')
              (with_reducible first | exact HAL.out | exact HKSH.out _ (Below.refl _ _).drew | exact HKSH.out _ (below_alloc _ _).drew | exact HKSH.out _ (below_alloc _ _) | exact HKSH.out _ (below_bt (below_alloc _ _) (below_alloc _ _)).drew | exact HKSH.out _ (below_bt (below_alloc _ _) (below_alloc _ _)) | exact HKSH.out _ (by assumption) | exact HKSH.out _ (below_dw (by assumption)) | assumption)
              (first
                | (go_at_call 25; refine (HCC.out w5.drew (Below.refl _ _).drew).mono ?_; rintro e w6 ⟨v, rfl, hon⟩; have hb6 : Below w5.heap.size w5 w6 := below_bt (below_bt (below_bt (Below.refl _ _).drew (below_alloc _ _)) (below_alloc _ _)) hon.bel; obtain ⟨uq, uc, rfl, _, _, _⟩ := hon.own.form)
                | fail)
            rename_i hh
            have HV : Hid (EOwn w6 w.heap.size (.slice uq M.length uc) M) := own_mono hon.own (by have h1 := HB5.out.size; have h2 := (below_bt (below_alloc w5.drew (.cells #[.string ke, .string ve, .int .i64 se, .bool ge] 23)) (below_alloc _ (.cells #[.slice q k c, .slice (some ⟨w5.drew.heap.size, 0, none⟩) 1 1, .slice p' m d] 25))).size; exact Nat.le_trans h1 h2)
            have HB6 : Hid (Below w.heap.size w w6) := below_bt HB5.out hb6
            clear hh hon hb6
            go_wp2
            go_ret2
            refine ⟨⟨uq, uc, ?_, ?_⟩, HB6.out⟩
            · rw [HE.out.1, HE.out.2, HINS.out, HM.out]; rfl
            · rw [HE.out.1, HINS.out, HM.out]; exact HV.out
      · have hkI : (n : Int) ≤ (k : Int) := by omega
        have hkD : decide (k < n) = false := decide_eq_false hkn
        have HNS : Hid (¬ (placeE l ⟨ke, ve, se, ge⟩ < l.length ∧ lessE ⟨ke, ve, se, ge⟩ (l.getD (placeE l ⟨ke, ve, se, ge⟩) zeroE) = false)) := fun h => by have h1 := h.1; rw [HK.out] at h1; have := HN.out; omega
        clear hkn
        go_wp2
        go_quiet (fail)
        have HB5 : Hid (Below w.heap.size w (w4.drewN nq)) := below_drewN HB4.out nq
        have HX5 : Hid ((w4.drewN nq).heap[w.heap.size]? = some (.cells #[.string ke, .string ve, .int .i64 se, .bool ge] 23 (0, 0))) := HX4.out
        generalize w4.drewN nq = w5 at HB5 HX5 ⊢
        by_cases hmany : n = 4096
        · have HE : Hid (l' = [] ∧ E = 4) := by
            have h := HRE.out
            unfold putE at h
            rw [if_neg (by simp [HC.out]), if_neg (by simp [HO.out]), if_neg HNS.out, if_pos (by have := HN.out; omega)] at h
            exact ⟨(Prod.mk.inj h).1.symm, (Prod.mk.inj h).2.symm⟩
          have hmI : ((n : Int) == 4096) = true := by rw [hmany]; rfl
          clear hmany
          go_wp2
          go_ret2
          exact ⟨⟨none, 0, by rw [HE.out.1, HE.out.2]; rfl, by rw [HE.out.1]; exact eown_nil _ _⟩, HB5.out⟩
        · have hmI : ((n : Int) == 4096) = false := by simp; omega
          have HNM : Hid (n < 4096) := by have := HLE4.out; show _ < _; omega
          have HE : Hid (l' = insE l ⟨ke, ve, se, ge⟩ ∧ E = 0) := by
            have h := HRE.out
            unfold putE at h
            rw [if_neg (by simp [HC.out]), if_neg (by simp [HO.out]), if_neg HNS.out, if_neg (by have := HN.out; have := HNM.out; omega)] at h
            exact ⟨(Prod.mk.inj h).1.symm, (Prod.mk.inj h).2.symm⟩
          clear hmany
          have HKS : ∀ w', Below w5.heap.size w5 w' → (w'.cell? ⟨w.heap.size, 0, none⟩ = some (.string ke) ∧ w'.cell? ⟨w.heap.size, 1, none⟩ = some (.string ve) ∧ w'.cell? ⟨w.heap.size, 2, none⟩ = some (.int .i64 se) ∧ w'.cell? ⟨w.heap.size, 3, none⟩ = some (.bool ge)) ∧ Below w5.heap.size w5 w' := fun w' hb => by
            obtain ⟨q0, q1, q2, q3⟩ := four_cells (block_below' HX5.out hb)
            exact ⟨⟨q0, q1, q2, q3⟩, hb⟩
          have HKSH : Hid (∀ w', Below w5.heap.size w5 w' → (w'.cell? ⟨w.heap.size, 0, none⟩ = some (.string ke) ∧ w'.cell? ⟨w.heap.size, 1, none⟩ = some (.string ve) ∧ w'.cell? ⟨w.heap.size, 2, none⟩ = some (.int .i64 se) ∧ w'.cell? ⟨w.heap.size, 3, none⟩ = some (.bool ge)) ∧ Below w5.heap.size w5 w') := HKS
          have HAL : Hid ((w5.cell? ⟨w.heap.size, 0, none⟩ = some (.string ke) ∧ w5.cell? ⟨w.heap.size, 1, none⟩ = some (.string ve) ∧ w5.cell? ⟨w.heap.size, 2, none⟩ = some (.int .i64 se) ∧ w5.cell? ⟨w.heap.size, 3, none⟩ = some (.bool ge)) ∧ Below w5.heap.size w5 w5) := HKS w5 (Below.refl _ _)
          clear HKS
          obtain ⟨r0, r1, r2, r3⟩ := HCUT.out
          obtain ⟨M, hM⟩ : ∃ M, l.take k ++ [(⟨ke, ve, se, ge⟩ : EntV)] ++ l.drop k = M := ⟨_, rfl⟩
          have HM : Hid (l.take k ++ [(⟨ke, ve, se, ge⟩ : EntV)] ++ l.drop k = M) := hM
          obtain ⟨p', m, d, hcf, hcin, hcz, hm⟩ := r3
          have hcc : ∀ W, Below w5.heap.size w5 W → Calls Tryd.prog 25 #[.slice (some ⟨W.heap.size + 1, 0, none⟩) 3 3] ((W.alloc (.cells #[.string ke, .string ve, .int .i64 se, .bool ge] 23)).alloc (.cells #[.slice q k c, .slice (some ⟨W.heap.size, 0, none⟩) 1 1, .slice p' m d] 25)) fun e w' => ∃ v, e = .returned v ∧ OnB ((W.alloc (.cells #[.string ke, .string ve, .int .i64 se, .bool ge] 23)).alloc (.cells #[.slice q k c, .slice (some ⟨W.heap.size, 0, none⟩) 1 1, .slice p' m d] 25)) v M w' := fun W hW => by
            have hin : EntsIn _ q l := HQ.out.below (below_bt (below_bt HB5.out hW) (below_bt (below_alloc W (.cells #[.string ke, .string ve, .int .i64 se, .bool ge] 23)) (below_alloc _ (.cells #[.slice q k c, .slice (some ⟨W.heap.size, 0, none⟩) 1 1, .slice p' m d] 25))))
            rw [← hM]
            exact concat_any (W.heap.size + 1) q (some ⟨W.heap.size, 0, none⟩) p' k 1 m c 1 d (l.take k) [⟨ke, ve, se, ge⟩] (l.drop k) _ (heap_two _ _ _) ⟨by rw [List.length_take]; have := HN.out; have := HKN.out; omega, r2 _ hin⟩ (ents_box (block_below' (heap_alloc_new _ _) (below_alloc _ _))) ⟨by rw [List.length_drop]; have := HN.out; omega, hcin _ hin⟩ HQN.out (fun h => by cases h) hcz (by omega) (by have := HNM.out; have := HKN.out; omega)
          have HCC : Hid (∀ W, Below w5.heap.size w5 W → Calls Tryd.prog 25 #[.slice (some ⟨W.heap.size + 1, 0, none⟩) 3 3] ((W.alloc (.cells #[.string ke, .string ve, .int .i64 se, .bool ge] 23)).alloc (.cells #[.slice q k c, .slice (some ⟨W.heap.size, 0, none⟩) 1 1, .slice p' m d] 25)) fun e w' => ∃ v, e = .returned v ∧ OnB ((W.alloc (.cells #[.string ke, .string ve, .int .i64 se, .bool ge] 23)).alloc (.cells #[.slice q k c, .slice (some ⟨W.heap.size, 0, none⟩) 1 1, .slice p' m d] 25)) v M w') := hcc
          clear hcc hcin hcz hm r1 r2 hM
          go_wp2
          go_region_held3 (fun w' => (w'.cell? ⟨w.heap.size, 0, none⟩ = some (.string ke) ∧ w'.cell? ⟨w.heap.size, 1, none⟩ = some (.string ve) ∧ w'.cell? ⟨w.heap.size, 2, none⟩ = some (.int .i64 se) ∧ w'.cell? ⟨w.heap.size, 3, none⟩ = some (.bool ge)) ∧ Below w5.heap.size w5 w')
            (with_reducible first | exact HAL.out | exact HKSH.out _ (Below.refl _ _).drew | exact HKSH.out _ (below_alloc _ _).drew | exact HKSH.out _ (below_alloc _ _) | exact HKSH.out _ (below_bt (below_alloc _ _) (below_alloc _ _)).drew | exact HKSH.out _ (below_bt (below_alloc _ _) (below_alloc _ _)) | exact HKSH.out _ (by assumption) | exact HKSH.out _ (below_dw (by assumption)) | assumption)
            (first
              | (go_at_call 25; refine (HCC.out w5.drew (Below.refl _ _).drew).mono ?_; rintro e w6 ⟨v, rfl, hon⟩; have hb6 : Below w5.heap.size w5 w6 := below_bt (below_bt (below_bt (Below.refl _ _).drew (below_alloc _ _)) (below_alloc _ _)) hon.bel; obtain ⟨uq, uc, rfl, _, _, _⟩ := hon.own.form)
              | fail)
          rename_i hh
          have HV : Hid (EOwn w6 w.heap.size (.slice uq M.length uc) M) := own_mono hon.own (by have h1 := HB5.out.size; have h2 := (below_bt (below_alloc w5.drew (.cells #[.string ke, .string ve, .int .i64 se, .bool ge] 23)) (below_alloc _ (.cells #[.slice q k c, .slice (some ⟨w5.drew.heap.size, 0, none⟩) 1 1, .slice p' m d] 25))).size; exact Nat.le_trans h1 h2)
          have HB6 : Hid (Below w.heap.size w w6) := below_bt HB5.out hb6
          clear hh hon hb6
          go_wp2
          go_ret2
          refine ⟨⟨uq, uc, ?_, ?_⟩, HB6.out⟩
          · rw [HE.out.1, HE.out.2, HINS.out, HM.out]; rfl
          · rw [HE.out.1, HINS.out, HM.out]; exact HV.out
    · have hO1 : ((O : Int) == 0) = false := by simp; omega
      have HOp : Hid (O ≠ 0) := by show _ ≠ _; omega
      clear h0
      have HE : Hid (l' = [] ∧ E = O) := by
        have h := HRE.out
        rw [putE_one HC.out (by rw [HO.out]; exact HOp.out), HO.out] at h
        exact ⟨(Prod.mk.inj h).1.symm, (Prod.mk.inj h).2.symm⟩
      go_wp2
      go_ret2
      exact ⟨⟨none, 0, by rw [HE.out.1, HE.out.2]; rfl, by rw [HE.out.1]; exact eown_nil _ _⟩, HB3.out⟩
  · have hO1 : ((C : Int) == 0) = false := by simp; omega
    have HOp : Hid (C ≠ 0) := by show _ ≠ _; omega
    clear h0
    have HE : Hid (l' = [] ∧ E = C) := by
      have h := HRE.out
      rw [putE_bad (by rw [HC.out]; exact HOp.out), HC.out] at h
      exact ⟨(Prod.mk.inj h).1.symm, (Prod.mk.inj h).2.symm⟩
    go_wp2
    go_ret2
    exact ⟨⟨none, 0, by rw [HE.out.1, HE.out.2]; rfl, by rw [HE.out.1]; exact eown_nil _ _⟩, HB2.out⟩
end Go.Proofs.YtbeoijlkhpbdjaaDoor
