import Derived.Test.YtghcmllmbpoidaaGreatDoorJ35
import Derived.Lib.AppendZeros
import Derived.Test.YtghcmllmbpoidaaGreatDoorJ34
import Derived.Test.YtghcmllmbpoidaaGreatDoorJ33
import Derived.Test.YtghcmllmbpoidaaGreatDoorJ02
import Derived.Laws.OwnMore
namespace Go.Proofs.YtghcmllmbpoidaaGreatDoor.Mg
open Go.RowKit Go.WideShapes
def agA (b : Nat → Nat) : Array Value := #[.pointer (some ⟨b 0, 0, none⟩), .pointer (some ⟨b 1, 0, none⟩), .pointer (some ⟨b 2, 0, none⟩), .pointer (some ⟨b 3, 0, none⟩), .pointer (some ⟨b 4, 0, none⟩), .pointer (some ⟨b 5, 0, none⟩), .pointer (some ⟨b 6, 0, none⟩), .pointer (some ⟨b 7, 0, none⟩), .pointer (some ⟨b 8, 0, none⟩), .pointer (some ⟨b 9, 0, none⟩), .pointer (some ⟨b 10, 0, none⟩), .pointer (some ⟨b 11, 0, none⟩)]
theorem agA_at {b : Nat → Nat} {j : Nat} (h : j < 12) : (agA b)[j]? = some (.pointer (some ⟨b j, 0, none⟩)) := by
  have hc : j = 0 ∨ j = 1 ∨ j = 2 ∨ j = 3 ∨ j = 4 ∨ j = 5 ∨ j = 6 ∨ j = 7 ∨ j = 8 ∨ j = 9 ∨ j = 10 ∨ j = 11 := by omega
  rcases hc with rfl | rfl | rfl | rfl | rfl | rfl | rfl | rfl | rfl | rfl | rfl | rfl <;> rfl
theorem ahead_b (Z : Nat → Prop) (lk : Nat) (al : List NodV) (x : EntV) (w : World) (hs : Skip w Z lk al) (hr : RiseE (eosN al)) :
    Calls Tryz.prog 207 #[.pointer (some ⟨lk, 0, none⟩), entV x] w fun e w' => (∃ f b : Nat → Nat, e = .returned (.agg #[.pointer (some ⟨b 0, 0, none⟩), .pointer (some ⟨b 1, 0, none⟩), .pointer (some ⟨b 2, 0, none⟩), .pointer (some ⟨b 3, 0, none⟩), .pointer (some ⟨b 4, 0, none⟩), .pointer (some ⟨b 5, 0, none⟩), .pointer (some ⟨b 6, 0, none⟩), .pointer (some ⟨b 7, 0, none⟩), .pointer (some ⟨b 8, 0, none⟩), .pointer (some ⟨b 9, 0, none⟩), .pointer (some ⟨b 10, 0, none⟩), .pointer (some ⟨b 11, 0, none⟩)]) ∧ (∀ h, h < 12 → AheadN al x h (f h)) ∧ ∀ h, (al.getD (f h) zN).nb = b h) ∧ Below w.heap.size w w' :=
  (ahead_agg Z lk al x w hs hr).mono fun _ _ ⟨⟨f, h1, h2⟩, h3⟩ => ⟨⟨f, fun h => (al.getD (f h) zN).nb, h1, h2, fun _ => rfl⟩, h3⟩
structure OnP (w : World) (Z : Nat → Prop) (lk g : Nat) (al : List NodV) (b : Nat → Nat) (x : EntV) (wr : World) : Prop where
  sk : Skip wr Z lk al
  bel : Below w.heap.size w wr
  xb : wr.heap[w.heap.size]? = some (.cells #[.string x.key, .string x.val, .int .i64 x.seq, .bool x.gone] 66 (0, 0))
  ab : wr.heap[g]? = some (.cells (agA b) 330 (0, 0))
theorem OnP.next {w wr w' : World} {Z : Nat → Prop} {lk g : Nat} {al : List NodV} {b : Nat → Nat} {x : EntV} (h : OnP w Z lk g al b x wr) (hb : Below wr.heap.size wr w') : OnP w Z lk g al b x w' := ⟨h.sk.below hb, below_bt h.bel hb, block_below' h.xb hb, block_below' h.ab hb⟩
theorem OnP.drewN {w wr : World} {Z : Nat → Prop} {lk g : Nat} {al : List NodV} {b : Nat → Nat} {x : EntV} (h : OnP w Z lk g al b x wr) (n : Nat) : OnP w Z lk g al b x (wr.drewN n) := ⟨⟨h.sk.pos, h.sk.head, h.sk.lkb, h.sk.links, h.sk.nod, h.sk.nxt, h.sk.high, h.sk.apart, h.sk.apartn⟩, below_drewN h.bel n, h.xb, h.ab⟩
theorem InP.drew {Z : Nat → Prop} {lk g : Nat} {al : List NodV} {f : Nat → Nat} {A : Array Value} {m : NodV} {k : Nat} {wr : World} (h : InP Z lk g al f A m k wr) : InP Z lk g al f A m k wr.drew := ⟨h.lkb, h.ab, h.nod, h.nxt, h.new, h.newb⟩
theorem Kept.drew {Z : Nat → Prop} {w w' : World} (h : Kept Z w w') : Kept Z w w'.drew := ⟨h.os, h.tape, h.output, h.size, h.blk, h.typ⟩
def putR (l : List EntV) (x : EntV) : List EntV × Nat :=
  if placeE l x < l.length ∧ sameE (l.getD (placeE l x) zeroE) x = true then (l, 100) else if 4096 ≤ l.length then (l, 4) else (insE l x, 0)
set_option maxRecDepth 8000 in
set_option maxHeartbeats 4000000 in
theorem putL_any (Z : Nat → Prop) (lk : Nat) (al : List NodV) (x : EntV) (w : World) (hs : Skip w Z lk al) (hr : RiseE (eosN al)) (hlen : al.length ≤ 4097) (hL : Laid w) (hb2 : ¬ Z 3) (hbw : ∀ k, w.heap.size ≤ k → Z k) (l' : List EntV) (E : Nat) (hR : putR (eosN al) x = (l', E)) :
    Calls Tryz.prog 150 #[.pointer (some ⟨lk, 0, none⟩), entV x] w fun e w' => e = .returned (.int .i64 (E : Int)) ∧ (∃ al', Skip w' Z lk al' ∧ eosN al' = l') ∧ Kept Z w w' := by
  have HS : Hid (Skip w Z lk al) := hs
  have HLN : Hid (al.length ≤ 4097) := hlen
  have HB2 : Hid (¬ Z 3 ∧ ∀ k, w.heap.size ≤ k → Z k) := ⟨hb2, hbw⟩
  have HLA : Hid (Laid w) := hL
  have HRE : Hid (putR (eosN al) x = (l', E)) := hR
  have H := fun v' => ahead_b Z lk al x (w.alloc (.cells v' 66)) (hs.below (below_alloc _ _)) hr
  obtain ⟨ke, ve, se, ge⟩ := x
  rw [entV_def] at H ⊢
  clear hs hr hlen hb2 hbw hL hR
  go_enter Tryz.func150, Tryz.ntmps150
  go_wp2_with fail
  refine (H _).mono ?_
  rintro e w2 ⟨⟨f, b, rfl, hf, hbf⟩, hb⟩
  have HBF : Hid (∀ h, (al.getD (f h) zN).nb = b h) := hbf
  have HF : Hid (∀ h, h < 12 → AheadN al ⟨ke, ve, se, ge⟩ h (f h)) := hf
  have hO : OnP w Z lk w2.heap.size al b ⟨ke, ve, se, ge⟩ (w2.alloc (.cells (agA b) 330)) :=
    ⟨(HS.out.below (below_bt (below_alloc w _) hb)).below (below_alloc _ _), below_bt (below_bt (below_alloc w _) hb) (below_alloc _ _), block_below' (block_below' (heap_alloc_new _ _) hb) (below_alloc _ _), heap_alloc_new _ _⟩
  clear hb hf H
  have hb0 := hbf 0
  have h0 := HF.out 0 (by omega)
  have hpl := ahead_place h0 (fun q hq => (HS.out.high q hq).1)
  obtain ⟨n, hn⟩ : ∃ n, al.getD (f 0) zN = n := ⟨_, rfl⟩
  obtain ⟨_, _, _, _, d4⟩ := hO.sk.cells h0.lt hn
  have hhi := (hO.sk.high _ h0.lt).1
  have cn := hO.sk.next h0.lt hn (k := 0) (by rw [← hn]; exact hhi)
  rw [next0 (fun q hq => (HS.out.high q hq).1)] at cn
  rw [hn] at hhi
  have htI : (1 : Int) ≤ ((n.ht : Nat) : Int) := by omega
  have HO : Hid (OnP w Z lk w2.heap.size al b ⟨ke, ve, se, ge⟩ (w2.alloc (.cells (agA b) 330))) := hO
  have HN : Hid (al.getD (f 0) zN = n) := hn
  have HPL : Hid (placeE (eosN al) ⟨ke, ve, se, ge⟩ = f 0) := hpl
  have HFL : Hid (f 0 < al.length) := h0.lt
  clear h0 hpl hO hhi hbf
  obtain ⟨x0, x1, x2, x3⟩ := four_cells HO.out.xb
  unfold agA at d4 cn x0 x1 x2 x3
  rw [hn] at hb0
  rw [hb0] at d4
  clear hn
  obtain ⟨ne, nb, bb, ht⟩ := n
  simp only at d4 cn htI x0 x1 x2 x3 hb0
  subst hb0
  cases hnx : al[f 0 + 1]? with
  | none =>
    rw [hnx] at cn
    simp only [ptO_eq, adO] at cn
    have HNX : Hid (al[f 0 + 1]? = none) := hnx
    clear hnx
    go_wp2
    go_quiet (fail)
    have HOz : Hid (OnP w Z lk w2.heap.size al b ⟨ke, ve, se, ge⟩ ((w2.alloc (.cells (agA b) 330)).drewN nq)) := HO.out.drewN nq
    have HNS : Hid (¬ (placeE (eosN al) ⟨ke, ve, se, ge⟩ < (eosN al).length ∧ sameE ((eosN al).getD (placeE (eosN al) ⟨ke, ve, se, ge⟩) zeroE) ⟨ke, ve, se, ge⟩ = true)) := by
      rintro ⟨h1, _⟩
      rw [HPL.out, eosN_len] at h1
      have h2 := HNX.out
      rw [List.getElem?_eq_none_iff] at h2
      omega
    unfold agA at HOz
    clear d4 cn x0 x1 x2 x3 HO
    generalize World.drewN _ nq = wz at HOz ⊢
    generalize w2.heap.size = g at *
    have hl := HOz.out.sk.links
    have l1 : wz.cell? ⟨lk, 1, none⟩ = some (.int .i64 ((al.length - 1 : Nat) : Int)) := Lib.cell_of_heap hl 1
    have l1f := frozen_row hl 1
    obtain ⟨c, hc⟩ : ∃ c, al.length - 1 = c := ⟨_, rfl⟩
    rw [hc] at l1
    have HC : Hid (al.length - 1 = c) := hc
    clear hl hc
    by_cases hcm : c = 4096
    · have HE : Hid (l' = eosN al ∧ E = 4) := by
        have h := HRE.out
        unfold putR at h
        rw [if_neg HNS.out, if_pos (by rw [eosN_len, HC.out]; omega)] at h
        exact ⟨(Prod.mk.inj h).1.symm, (Prod.mk.inj h).2.symm⟩
      subst hcm
      go_wp2
      go_ret
      exact ⟨by rw [HE.out.2]; rfl, ⟨al, HOz.out.sk, HE.out.1.symm⟩, kept_below HOz.out.bel⟩
    · have HCM : Hid (c < 4096) := by have h1 := HLN.out; have h2 := HC.out; show _ < _; omega
      have hcI : ((c : Int) == 4096) = false := by simp; omega
      have hcI2 : (c : Int) < 4096 := by have := HCM.out; omega
      have hcI3 : (0 : Int) ≤ (c : Int) := by omega
      clear hcm
      obtain ⟨c1, hc1⟩ : ∃ c1 : Nat, (c : Int) + 1 = (c1 : Int) := ⟨c + 1, by omega⟩
      have HC1 : Hid (c1 = al.length) := by have h1 := HC.out; have h2 := HOz.out.sk.pos; show _ = _; omega
      have HCW : Hid ((c : Int) + 1 = (c1 : Int)) := hc1
      clear hc1
      go_wp2
      rw [HCW.out]
      have H5 : Hid (Kept Z w (wz.setCell ⟨lk, 1, none⟩ (.int .i64 (c1 : Int)))) := (kept_below HOz.out.bel).trans (kept_set HOz.out.sk.links (.inr rfl) HOz.out.sk.lkb _)
      have X5 : Hid ((wz.setCell ⟨lk, 1, none⟩ (.int .i64 (c1 : Int))).heap[w.heap.size]? = some (.cells #[.string ke, .string ve, .int .i64 se, .bool ge] 66 (0, 0))) := set_typ HOz.out.sk.links HOz.out.xb (by decide) _
      have A5 : Hid ((wz.setCell ⟨lk, 1, none⟩ (.int .i64 (c1 : Int))).heap[g]? = some (.cells (agA b) 330 (0, 0))) := set_typ HOz.out.sk.links HOz.out.ab (by decide) _
      have L5 : Hid ((wz.setCell ⟨lk, 1, none⟩ (.int .i64 (c1 : Int))).heap[lk]? = some (.cells #[ptN (al.getD 0 zN), .int .i64 (c1 : Int)] 329 (0, 0))) := heap_setCell_same wz lk 1 _ _ _ HOz.out.sk.links
      have N5 : Hid (∀ p, p < al.length → (wz.setCell ⟨lk, 1, none⟩ (.int .i64 (c1 : Int))).heap[(al.getD p zN).nb]? = some (.cells (nodC (al.getD p zN)) 327 (0, 0))) := fun p hp => set_typ HOz.out.sk.links (HOz.out.sk.nod p hp).2 (by decide) _
      have P5 : Hid (∀ p, p < al.length → ∃ cs, (wz.setCell ⟨lk, 1, none⟩ (.int .i64 (c1 : Int))).heap[(al.getD p zN).bb]? = some (.cells cs 324 (0, 0)) ∧ cs.size = (al.getD p zN).ht ∧ ∀ h, h < (al.getD p zN).ht → cs[h]? = some (ptO (nxN h (al.drop (p + 1))))) := fun p hp => by
        obtain ⟨_, cs, q1, q2⟩ := HOz.out.sk.nxt p hp
        exact ⟨cs, set_typ HOz.out.sk.links q1 (by decide) _, q2⟩
      clear l1 l1f hcI hcI2 hcI3
      generalize wz.setCell ⟨lk, 1, none⟩ (.int .i64 (c1 : Int)) = w5 at *
      have HKS : ∀ w', Below w5.heap.size w5 w' → (w'.cell? ⟨w.heap.size, 0, none⟩ = some (.string ke) ∧ w'.cell? ⟨w.heap.size, 1, none⟩ = some (.string ve) ∧ w'.cell? ⟨w.heap.size, 2, none⟩ = some (.int .i64 se) ∧ w'.cell? ⟨w.heap.size, 3, none⟩ = some (.bool ge)) ∧ w'.cell? ⟨lk, 1, none⟩ = some (.int .i64 ((c1 : Nat) : Int)) ∧ Below w5.heap.size w5 w' := fun w' hb => by
        obtain ⟨q0, q1, q2, q3⟩ := four_cells (block_below' X5.out hb)
        exact ⟨⟨q0, q1, q2, q3⟩, Lib.cell_of_heap (block_below' L5.out hb) 1, hb⟩
      have HKSH : Hid (∀ w', Below w5.heap.size w5 w' → (w'.cell? ⟨w.heap.size, 0, none⟩ = some (.string ke) ∧ w'.cell? ⟨w.heap.size, 1, none⟩ = some (.string ve) ∧ w'.cell? ⟨w.heap.size, 2, none⟩ = some (.int .i64 se) ∧ w'.cell? ⟨w.heap.size, 3, none⟩ = some (.bool ge)) ∧ w'.cell? ⟨lk, 1, none⟩ = some (.int .i64 ((c1 : Nat) : Int)) ∧ Below w5.heap.size w5 w') := HKS
      have HAL : Hid ((w5.cell? ⟨w.heap.size, 0, none⟩ = some (.string ke) ∧ w5.cell? ⟨w.heap.size, 1, none⟩ = some (.string ve) ∧ w5.cell? ⟨w.heap.size, 2, none⟩ = some (.int .i64 se) ∧ w5.cell? ⟨w.heap.size, 3, none⟩ = some (.bool ge)) ∧ w5.cell? ⟨lk, 1, none⟩ = some (.int .i64 ((c1 : Nat) : Int)) ∧ Below w5.heap.size w5 w5) := HKS w5 (Below.refl _ _)
      clear HKS
      have HHT : ∀ w', ((w'.cell? ⟨w.heap.size, 0, none⟩ = some (.string ke) ∧ w'.cell? ⟨w.heap.size, 1, none⟩ = some (.string ve) ∧ w'.cell? ⟨w.heap.size, 2, none⟩ = some (.int .i64 se) ∧ w'.cell? ⟨w.heap.size, 3, none⟩ = some (.bool ge)) ∧ w'.cell? ⟨lk, 1, none⟩ = some (.int .i64 ((c1 : Nat) : Int)) ∧ Below w5.heap.size w5 w') → Calls Tryz.prog 209 #[.int .i64 (c1 : Int)] w' fun e w'' => (∃ k : Nat, 1 ≤ k ∧ k ≤ 12 ∧ e = .returned (.int .i64 (k : Int))) ∧ w'' = w' := fun w' hS => height_any c1 w' ((HLA.out.kept H5.out HB2.out.1).below hS.2.2 (by have h1 := H5.out.size; have h2 := HLA.out.size; omega)) (by have h1 := HC1.out; have h2 := HS.out.pos; omega) (by have h1 := HC1.out; have h2 := HLN.out; omega)
      go_region_held3 (fun w' => (w'.cell? ⟨w.heap.size, 0, none⟩ = some (.string ke) ∧ w'.cell? ⟨w.heap.size, 1, none⟩ = some (.string ve) ∧ w'.cell? ⟨w.heap.size, 2, none⟩ = some (.int .i64 se) ∧ w'.cell? ⟨w.heap.size, 3, none⟩ = some (.bool ge)) ∧ w'.cell? ⟨lk, 1, none⟩ = some (.int .i64 ((c1 : Nat) : Int)) ∧ Below w5.heap.size w5 w')
        (with_reducible first | exact HAL.out | exact HKSH.out _ (Below.refl _ _).drew | exact HKSH.out _ (below_alloc _ _).drew | exact HKSH.out _ (below_alloc _ _) | exact HKSH.out _ (below_bt (below_alloc _ _) (below_alloc _ _)).drew | exact HKSH.out _ (below_bt (below_alloc _ _) (below_alloc _ _)) | exact HKSH.out _ (below_dw (by assumption)) | assumption)
        (first
          | (go_at_call 209; refine (HHT _ (by assumption)).mono ?_; rintro e w7 ⟨⟨k, hk1, hk2, rfl⟩, rfl⟩; have hmk := run_makeP k (by omega))
          | fail)
      rename_i hh
      have W6B : Below w5.heap.size w5 (((w5.alloc (.cells (zP k) 324)).alloc (.cells #[.string ke, .string ve, .int .i64 se, .bool ge, .slice (some ⟨w5.heap.size, 0, none⟩) k k] 327)).drew) := hh.2.2
      have HNE : Hid (∀ p, p < al.length → (al.getD p zN).bb ≠ w5.heap.size) := fun p hp e => by
        obtain ⟨cs, q1, _⟩ := P5.out p hp
        have := lt_heap q1
        omega
      have HNE2 : Hid (∀ p, p < al.length → (al.getD p zN).nb ≠ w5.heap.size + 1) := fun p hp e => by
        have := lt_heap (N5.out p hp)
        omega
      have HGB : Hid (∀ k, w5.heap.size ≤ k → Z k) := fun k hk => HB2.out.2 k (Nat.le_trans H5.out.size hk)
      have HI : Hid (InP Z lk g al f (agA b) ⟨⟨ke, ve, se, ge⟩, w5.heap.size + 1, w5.heap.size, k⟩ 0 (((w5.alloc (.cells (zP k) 324)).alloc (.cells #[.string ke, .string ve, .int .i64 se, .bool ge, .slice (some ⟨w5.heap.size, 0, none⟩) k k] 327)).drew)) := by
        refine ⟨?_, block_below' A5.out W6B, fun p hp => block_below' (N5.out p hp) W6B, fun p hp => ?_, heap_two _ _ _, zP k, block_below' (heap_alloc_new _ _) (below_alloc _ _).drew, zP_size k, fun h hh => by omega⟩
        · have e := block_below' L5.out W6B
          rw [HC1.out] at e
          exact e
        · obtain ⟨cs, q1, q2, q3⟩ := P5.out p hp
          exact ⟨cs, block_below' q1 W6B, q2, fun h hh => by rw [q3 h hh, if_neg (by omega)]⟩
      have HK6 : Hid (Kept Z w (((w5.alloc (.cells (zP k) 324)).alloc (.cells #[.string ke, .string ve, .int .i64 se, .bool ge, .slice (some ⟨w5.heap.size, 0, none⟩) k k] 327)).drew)) := H5.out.trans (kept_below W6B)
      have HKK : Hid (1 ≤ k ∧ k ≤ 12) := ⟨hk1, hk2⟩
      have hkI : (1 : Int) ≤ (k : Int) := by omega
      have hkI2 : (k : Int) ≤ 12 := by omega
      clear hh W6B H5 X5 A5 L5 N5 P5 HKSH HAL HHT hmk hk1 hk2
      generalize World.drew _ = w6 at HI HK6 ⊢
      generalize w5.heap.size = gb at *
      have HIS : ∀ (j : Nat) (wr : World), InP Z lk g al f (agA b) ⟨⟨ke, ve, se, ge⟩, gb + 1, gb, k⟩ j wr → wr.cell? ⟨gb + 1, 4, none⟩ = some (.slice (some ⟨gb, 0, none⟩) k k) := fun j wr h => Lib.cell_of_heap h.new 4
      have HISH : Hid (∀ (j : Nat) (wr : World), InP Z lk g al f (agA b) ⟨⟨ke, ve, se, ge⟩, gb + 1, gb, k⟩ j wr → wr.cell? ⟨gb + 1, 4, none⟩ = some (.slice (some ⟨gb, 0, none⟩) k k)) := HIS
      have e4 := HIS 0 w6 HI.out
      clear HIS
      go_wp2
      go_loopw [55] (fun i wr => ∃ j : Nat, j ≤ k ∧ i = .int .i64 (j : Int) ∧ InP Z lk g al f (agA b) ⟨⟨ke, ve, se, ge⟩, gb + 1, gb, k⟩ j wr ∧ Kept Z w wr) (fun i _ => k - (intOf i).toNat)
      case atStart => exact ⟨0, by omega, rfl, HI.out, HK6.out⟩
      case round =>
        obtain ⟨j, hj, rfl, hin, hkp⟩ := hrel
        have HIN : Hid (InP Z lk g al f (agA b) ⟨⟨ke, ve, se, ge⟩, gb + 1, gb, k⟩ j wr) := hin
        have HKP : Hid (Kept Z w wr) := hkp
        clear hin hkp e4
        by_cases hjk : j < k
        · have hjI : (j : Int) < (k : Int) := by omega
          have hjI2 : (0 : Int) ≤ (j : Int) := by omega
          have hjI3 : (j : Int) < 12 := by omega
          have kw0 : IntKind.i64.wrap (j : Int) = (j : Int) := by rw [IntKind.wrap_i64]; omega
          have HJ : Hid (j < k) := hjk
          have hj12 : j < 12 := by have := HKK.out; omega
          have ha := HF.out j hj12
          obtain ⟨np, hnp⟩ : ∃ np, al.getD (f j) zN = np := ⟨_, rfl⟩
          have hnb : np.nb = b j := by rw [← hnp]; exact HBF.out j
          have q4 : wr.cell? ⟨gb + 1, 4, none⟩ = some (.slice (some ⟨gb, 0, none⟩) k k) := HISH.out j wr HIN.out
          have qa : wr.cell? ⟨g, j, none⟩ = some (.pointer (some ⟨b j, 0, none⟩)) := (cell_of_row wr g j _ _ _ HIN.out.ab).trans (agA_at hj12)
          have qn : wr.cell? ⟨b j, 4, none⟩ = some (.slice (some ⟨np.bb, 0, none⟩) np.ht np.ht) := by
            have e := HIN.out.nod (f j) ha.lt
            rw [hnp, hnb] at e
            exact Lib.cell_of_heap e 4
          have HNX2 : Hid ((al.getD (f j) zN).bb = np.bb) := by show _ = _; rw [hnp]
          have qc : wr.cell? ⟨np.bb, j, none⟩ = some (.pointer (adO (nxN j (al.drop (f j + 1))))) := by
            obtain ⟨cs, c1, c2, c3⟩ := HIN.out.nxt (f j) ha.lt
            rw [← hnp, cell_of_row wr _ j cs _ _ c1, c3 j ha.high, if_neg (by omega), ptO_eq]
          have hti : (j : Int) < ((np.ht : Nat) : Int) := by have := ha.high; rw [hnp] at this; omega
          obtain ⟨vo, qv⟩ : ∃ vo, wr.cell? ⟨gb, j, none⟩ = some vo := by
            obtain ⟨cs, c1, c2, _⟩ := HIN.out.newb
            exact ⟨cs[j]'(by rw [c2]; exact hjk), (cell_of_row wr gb j cs _ _ c1).trans (Array.getElem?_eq_getElem _)⟩
          have qf : wr.frozen? ⟨gb, j, none⟩ = false := by
            obtain ⟨cs, c1, _⟩ := HIN.out.newb
            exact frozen_row c1 j
          have HST := HIN.out.step (k := j) hjk ha.lt ha.high HS.out.apart HNE.out
          rw [ptO_eq, hnp] at HST
          have HKT : Hid (∀ vv vu : Value, Kept Z w ((wr.setCell ⟨gb, j, none⟩ vv).setCell ⟨np.bb, j, none⟩ vu)) := fun vv vu => by
            obtain ⟨cs, c1, _⟩ := HIN.out.newb
            obtain ⟨cs2, c3, _⟩ := HIN.out.nxt (f j) ha.lt
            rw [hnp] at c3
            refine HKP.out.trans ((kept_set c1 (.inl rfl) (HGB.out gb (Nat.le_refl _)) vv).trans (kept_set (set_num c3 (by rw [← hnp]; exact HNE.out _ ha.lt) vv) (.inl rfl) ?_ vu))
            have := (HS.out.nxt (f j) ha.lt).1
            rw [hnp] at this
            exact this
          have hne : np.bb ≠ gb := by rw [← hnp]; exact HNE.out _ ha.lt
          obtain ⟨qo, hqo⟩ : ∃ qo, adO (nxN j (al.drop (f j + 1))) = qo := ⟨_, rfl⟩
          rw [hqo] at HST qc
          have HSTH : Hid (InP Z lk g al f (agA b) ⟨⟨ke, ve, se, ge⟩, gb + 1, gb, k⟩ (j + 1) ((wr.setCell ⟨gb, j, none⟩ (.pointer qo)).setCell ⟨np.bb, j, none⟩ (.pointer (some ⟨gb + 1, 0, none⟩)))) := HST
          have qc1 : (wr.setCell ⟨gb, j, none⟩ (.pointer qo)).cell? ⟨np.bb, j, none⟩ = some (.pointer qo) := (World.cell?_of_block (Below.heap_setCell wr ⟨gb, j, none⟩ _ np.bb hne)).trans qc
          have qf1 : (wr.setCell ⟨gb, j, none⟩ (.pointer qo)).frozen? ⟨np.bb, j, none⟩ = false := by
            obtain ⟨cs2, c3, _⟩ := HIN.out.nxt (f j) ha.lt
            rw [hnp] at c3
            exact frozen_row (set_num c3 hne _) j
          have qa1 : (wr.setCell ⟨gb, j, none⟩ (.pointer qo)).cell? ⟨g, j, none⟩ = some (.pointer (some ⟨b j, 0, none⟩)) := by
            obtain ⟨cs, c1, _⟩ := HIN.out.newb
            exact (cell_of_row _ g j _ _ _ (set_typ c1 HIN.out.ab (by decide) _)).trans (agA_at hj12)
          have qn1 : (wr.setCell ⟨gb, j, none⟩ (.pointer qo)).cell? ⟨b j, 4, none⟩ = some (.slice (some ⟨np.bb, 0, none⟩) np.ht np.ht) := by
            obtain ⟨cs, c1, _⟩ := HIN.out.newb
            have e := HIN.out.nod (f j) ha.lt
            rw [hnp, hnb] at e
            exact Lib.cell_of_heap (set_typ c1 e (by decide) _) 4
          clear HST hqo hne hnb hnp ha hj12 hjk hj
          obtain ⟨nne, nnb, nbb, nht⟩ := np
          simp only at *
          go_wp2
          go_region
          all_goals
            go_wp2
            go_roundw
            case rel => exact ⟨j + 1, HJ.out, by go_num, HSTH.out.drew, (HKT.out _ _).drew⟩
            case measure => have := HJ.out; simp [intOf]; omega
        · have hjI : (k : Int) ≤ (j : Int) := by omega
          have HJ : Hid (j = k) := by show _ = _; omega
          clear hjk hj
          go_wp2
          go_ret
          have hin := HIN.out
          rw [HJ.out] at hin
          have hE := HRE.out
          unfold putR at hE
          rw [if_neg HNS.out, if_neg (by rw [eosN_len, HC.out]; have := HCM.out; omega)] at hE
          refine ⟨by rw [← (Prod.mk.inj hE).2]; rfl, ⟨_, hin.done (x := ⟨ke, ve, se, ge⟩) HS.out HF.out HKK.out.1 HKK.out.2 ⟨HGB.out (gb + 1) (Nat.le_succ _), HGB.out gb (Nat.le_refl _)⟩ HNE.out HNE2.out, ?_⟩, HKP.out⟩
          rw [ents_ins (x := ⟨ke, ve, se, ge⟩) rfl (HF.out 0 (by omega)) (fun q hq => (HS.out.high q hq).1)]
          exact (Prod.mk.inj hE).1
  | some m =>
    rw [hnx] at cn
    simp only [ptO_eq, adO] at cn
    have HNX : Hid (al[f 0 + 1]? = some m) := hnx
    clear hnx
    have hlt : f 0 + 1 < al.length := (List.getElem?_eq_some_iff.1 HNX.out).1
    have hm : al.getD (f 0 + 1) zN = m := by rw [List.getD_eq_getElem?_getD, HNX.out]; rfl
    obtain ⟨y0, y1, y2, y3, _⟩ := HO.out.sk.cells hlt hm
    unfold agA at y0 y1 y2 y3
    obtain ⟨r, hr⟩ : ∃ r, sameE m.ent ⟨ke, ve, se, ge⟩ = r := ⟨_, rfl⟩
    have HSA := fun w' => same_any m.ent ⟨ke, ve, se, ge⟩ w' r hr
    have HSM : Hid ((placeE (eosN al) ⟨ke, ve, se, ge⟩ < (eosN al).length ∧ sameE ((eosN al).getD (placeE (eosN al) ⟨ke, ve, se, ge⟩) zeroE) ⟨ke, ve, se, ge⟩ = true) ↔ r = true) := by
      show _ ↔ _
      rw [HPL.out, eosN_at hlt, hm, hr, eosN_len]
      exact ⟨fun h => h.2, fun h => ⟨by omega, h⟩⟩
    clear hlt hm hr
    obtain ⟨⟨kx, vx, sx, gx⟩, mb, mbb, mht⟩ := m
    simp only at y0 y1 y2 y3 cn
    simp only [entV_def] at HSA
    have HKS : ∀ w', Below (w2.alloc (.cells #[.pointer (some ⟨b 0, 0, none⟩), .pointer (some ⟨b 1, 0, none⟩), .pointer (some ⟨b 2, 0, none⟩), .pointer (some ⟨b 3, 0, none⟩), .pointer (some ⟨b 4, 0, none⟩), .pointer (some ⟨b 5, 0, none⟩), .pointer (some ⟨b 6, 0, none⟩), .pointer (some ⟨b 7, 0, none⟩), .pointer (some ⟨b 8, 0, none⟩), .pointer (some ⟨b 9, 0, none⟩), .pointer (some ⟨b 10, 0, none⟩), .pointer (some ⟨b 11, 0, none⟩)] 330)).heap.size (w2.alloc (.cells #[.pointer (some ⟨b 0, 0, none⟩), .pointer (some ⟨b 1, 0, none⟩), .pointer (some ⟨b 2, 0, none⟩), .pointer (some ⟨b 3, 0, none⟩), .pointer (some ⟨b 4, 0, none⟩), .pointer (some ⟨b 5, 0, none⟩), .pointer (some ⟨b 6, 0, none⟩), .pointer (some ⟨b 7, 0, none⟩), .pointer (some ⟨b 8, 0, none⟩), .pointer (some ⟨b 9, 0, none⟩), .pointer (some ⟨b 10, 0, none⟩), .pointer (some ⟨b 11, 0, none⟩)] 330)) w' → (w'.cell? ⟨mb, 0, none⟩ = some (.string kx) ∧ w'.cell? ⟨mb, 1, none⟩ = some (.string vx) ∧ w'.cell? ⟨mb, 2, none⟩ = some (.int .i64 sx) ∧ w'.cell? ⟨mb, 3, none⟩ = some (.bool gx)) ∧ (w'.cell? ⟨w.heap.size, 0, none⟩ = some (.string ke) ∧ w'.cell? ⟨w.heap.size, 1, none⟩ = some (.string ve) ∧ w'.cell? ⟨w.heap.size, 2, none⟩ = some (.int .i64 se) ∧ w'.cell? ⟨w.heap.size, 3, none⟩ = some (.bool ge)) ∧ Below (w2.alloc (.cells #[.pointer (some ⟨b 0, 0, none⟩), .pointer (some ⟨b 1, 0, none⟩), .pointer (some ⟨b 2, 0, none⟩), .pointer (some ⟨b 3, 0, none⟩), .pointer (some ⟨b 4, 0, none⟩), .pointer (some ⟨b 5, 0, none⟩), .pointer (some ⟨b 6, 0, none⟩), .pointer (some ⟨b 7, 0, none⟩), .pointer (some ⟨b 8, 0, none⟩), .pointer (some ⟨b 9, 0, none⟩), .pointer (some ⟨b 10, 0, none⟩), .pointer (some ⟨b 11, 0, none⟩)] 330)).heap.size (w2.alloc (.cells #[.pointer (some ⟨b 0, 0, none⟩), .pointer (some ⟨b 1, 0, none⟩), .pointer (some ⟨b 2, 0, none⟩), .pointer (some ⟨b 3, 0, none⟩), .pointer (some ⟨b 4, 0, none⟩), .pointer (some ⟨b 5, 0, none⟩), .pointer (some ⟨b 6, 0, none⟩), .pointer (some ⟨b 7, 0, none⟩), .pointer (some ⟨b 8, 0, none⟩), .pointer (some ⟨b 9, 0, none⟩), .pointer (some ⟨b 10, 0, none⟩), .pointer (some ⟨b 11, 0, none⟩)] 330)) w' := fun w' hb => ⟨⟨(hb.cell (World.block_lt_of_cell? _ _ y0)).trans y0, (hb.cell (World.block_lt_of_cell? _ _ y1)).trans y1, (hb.cell (World.block_lt_of_cell? _ _ y2)).trans y2, (hb.cell (World.block_lt_of_cell? _ _ y3)).trans y3⟩, ⟨(hb.cell (World.block_lt_of_cell? _ _ x0)).trans x0, (hb.cell (World.block_lt_of_cell? _ _ x1)).trans x1, (hb.cell (World.block_lt_of_cell? _ _ x2)).trans x2, (hb.cell (World.block_lt_of_cell? _ _ x3)).trans x3⟩, hb⟩
    have HKSH : Hid (∀ w', Below (w2.alloc (.cells #[.pointer (some ⟨b 0, 0, none⟩), .pointer (some ⟨b 1, 0, none⟩), .pointer (some ⟨b 2, 0, none⟩), .pointer (some ⟨b 3, 0, none⟩), .pointer (some ⟨b 4, 0, none⟩), .pointer (some ⟨b 5, 0, none⟩), .pointer (some ⟨b 6, 0, none⟩), .pointer (some ⟨b 7, 0, none⟩), .pointer (some ⟨b 8, 0, none⟩), .pointer (some ⟨b 9, 0, none⟩), .pointer (some ⟨b 10, 0, none⟩), .pointer (some ⟨b 11, 0, none⟩)] 330)).heap.size (w2.alloc (.cells #[.pointer (some ⟨b 0, 0, none⟩), .pointer (some ⟨b 1, 0, none⟩), .pointer (some ⟨b 2, 0, none⟩), .pointer (some ⟨b 3, 0, none⟩), .pointer (some ⟨b 4, 0, none⟩), .pointer (some ⟨b 5, 0, none⟩), .pointer (some ⟨b 6, 0, none⟩), .pointer (some ⟨b 7, 0, none⟩), .pointer (some ⟨b 8, 0, none⟩), .pointer (some ⟨b 9, 0, none⟩), .pointer (some ⟨b 10, 0, none⟩), .pointer (some ⟨b 11, 0, none⟩)] 330)) w' → (w'.cell? ⟨mb, 0, none⟩ = some (.string kx) ∧ w'.cell? ⟨mb, 1, none⟩ = some (.string vx) ∧ w'.cell? ⟨mb, 2, none⟩ = some (.int .i64 sx) ∧ w'.cell? ⟨mb, 3, none⟩ = some (.bool gx)) ∧ (w'.cell? ⟨w.heap.size, 0, none⟩ = some (.string ke) ∧ w'.cell? ⟨w.heap.size, 1, none⟩ = some (.string ve) ∧ w'.cell? ⟨w.heap.size, 2, none⟩ = some (.int .i64 se) ∧ w'.cell? ⟨w.heap.size, 3, none⟩ = some (.bool ge)) ∧ Below (w2.alloc (.cells #[.pointer (some ⟨b 0, 0, none⟩), .pointer (some ⟨b 1, 0, none⟩), .pointer (some ⟨b 2, 0, none⟩), .pointer (some ⟨b 3, 0, none⟩), .pointer (some ⟨b 4, 0, none⟩), .pointer (some ⟨b 5, 0, none⟩), .pointer (some ⟨b 6, 0, none⟩), .pointer (some ⟨b 7, 0, none⟩), .pointer (some ⟨b 8, 0, none⟩), .pointer (some ⟨b 9, 0, none⟩), .pointer (some ⟨b 10, 0, none⟩), .pointer (some ⟨b 11, 0, none⟩)] 330)).heap.size (w2.alloc (.cells #[.pointer (some ⟨b 0, 0, none⟩), .pointer (some ⟨b 1, 0, none⟩), .pointer (some ⟨b 2, 0, none⟩), .pointer (some ⟨b 3, 0, none⟩), .pointer (some ⟨b 4, 0, none⟩), .pointer (some ⟨b 5, 0, none⟩), .pointer (some ⟨b 6, 0, none⟩), .pointer (some ⟨b 7, 0, none⟩), .pointer (some ⟨b 8, 0, none⟩), .pointer (some ⟨b 9, 0, none⟩), .pointer (some ⟨b 10, 0, none⟩), .pointer (some ⟨b 11, 0, none⟩)] 330)) w') := HKS
    have HAL : Hid (((w2.alloc (.cells #[.pointer (some ⟨b 0, 0, none⟩), .pointer (some ⟨b 1, 0, none⟩), .pointer (some ⟨b 2, 0, none⟩), .pointer (some ⟨b 3, 0, none⟩), .pointer (some ⟨b 4, 0, none⟩), .pointer (some ⟨b 5, 0, none⟩), .pointer (some ⟨b 6, 0, none⟩), .pointer (some ⟨b 7, 0, none⟩), .pointer (some ⟨b 8, 0, none⟩), .pointer (some ⟨b 9, 0, none⟩), .pointer (some ⟨b 10, 0, none⟩), .pointer (some ⟨b 11, 0, none⟩)] 330)).cell? ⟨mb, 0, none⟩ = some (.string kx) ∧ (w2.alloc (.cells #[.pointer (some ⟨b 0, 0, none⟩), .pointer (some ⟨b 1, 0, none⟩), .pointer (some ⟨b 2, 0, none⟩), .pointer (some ⟨b 3, 0, none⟩), .pointer (some ⟨b 4, 0, none⟩), .pointer (some ⟨b 5, 0, none⟩), .pointer (some ⟨b 6, 0, none⟩), .pointer (some ⟨b 7, 0, none⟩), .pointer (some ⟨b 8, 0, none⟩), .pointer (some ⟨b 9, 0, none⟩), .pointer (some ⟨b 10, 0, none⟩), .pointer (some ⟨b 11, 0, none⟩)] 330)).cell? ⟨mb, 1, none⟩ = some (.string vx) ∧ (w2.alloc (.cells #[.pointer (some ⟨b 0, 0, none⟩), .pointer (some ⟨b 1, 0, none⟩), .pointer (some ⟨b 2, 0, none⟩), .pointer (some ⟨b 3, 0, none⟩), .pointer (some ⟨b 4, 0, none⟩), .pointer (some ⟨b 5, 0, none⟩), .pointer (some ⟨b 6, 0, none⟩), .pointer (some ⟨b 7, 0, none⟩), .pointer (some ⟨b 8, 0, none⟩), .pointer (some ⟨b 9, 0, none⟩), .pointer (some ⟨b 10, 0, none⟩), .pointer (some ⟨b 11, 0, none⟩)] 330)).cell? ⟨mb, 2, none⟩ = some (.int .i64 sx) ∧ (w2.alloc (.cells #[.pointer (some ⟨b 0, 0, none⟩), .pointer (some ⟨b 1, 0, none⟩), .pointer (some ⟨b 2, 0, none⟩), .pointer (some ⟨b 3, 0, none⟩), .pointer (some ⟨b 4, 0, none⟩), .pointer (some ⟨b 5, 0, none⟩), .pointer (some ⟨b 6, 0, none⟩), .pointer (some ⟨b 7, 0, none⟩), .pointer (some ⟨b 8, 0, none⟩), .pointer (some ⟨b 9, 0, none⟩), .pointer (some ⟨b 10, 0, none⟩), .pointer (some ⟨b 11, 0, none⟩)] 330)).cell? ⟨mb, 3, none⟩ = some (.bool gx)) ∧ ((w2.alloc (.cells #[.pointer (some ⟨b 0, 0, none⟩), .pointer (some ⟨b 1, 0, none⟩), .pointer (some ⟨b 2, 0, none⟩), .pointer (some ⟨b 3, 0, none⟩), .pointer (some ⟨b 4, 0, none⟩), .pointer (some ⟨b 5, 0, none⟩), .pointer (some ⟨b 6, 0, none⟩), .pointer (some ⟨b 7, 0, none⟩), .pointer (some ⟨b 8, 0, none⟩), .pointer (some ⟨b 9, 0, none⟩), .pointer (some ⟨b 10, 0, none⟩), .pointer (some ⟨b 11, 0, none⟩)] 330)).cell? ⟨w.heap.size, 0, none⟩ = some (.string ke) ∧ (w2.alloc (.cells #[.pointer (some ⟨b 0, 0, none⟩), .pointer (some ⟨b 1, 0, none⟩), .pointer (some ⟨b 2, 0, none⟩), .pointer (some ⟨b 3, 0, none⟩), .pointer (some ⟨b 4, 0, none⟩), .pointer (some ⟨b 5, 0, none⟩), .pointer (some ⟨b 6, 0, none⟩), .pointer (some ⟨b 7, 0, none⟩), .pointer (some ⟨b 8, 0, none⟩), .pointer (some ⟨b 9, 0, none⟩), .pointer (some ⟨b 10, 0, none⟩), .pointer (some ⟨b 11, 0, none⟩)] 330)).cell? ⟨w.heap.size, 1, none⟩ = some (.string ve) ∧ (w2.alloc (.cells #[.pointer (some ⟨b 0, 0, none⟩), .pointer (some ⟨b 1, 0, none⟩), .pointer (some ⟨b 2, 0, none⟩), .pointer (some ⟨b 3, 0, none⟩), .pointer (some ⟨b 4, 0, none⟩), .pointer (some ⟨b 5, 0, none⟩), .pointer (some ⟨b 6, 0, none⟩), .pointer (some ⟨b 7, 0, none⟩), .pointer (some ⟨b 8, 0, none⟩), .pointer (some ⟨b 9, 0, none⟩), .pointer (some ⟨b 10, 0, none⟩), .pointer (some ⟨b 11, 0, none⟩)] 330)).cell? ⟨w.heap.size, 2, none⟩ = some (.int .i64 se) ∧ (w2.alloc (.cells #[.pointer (some ⟨b 0, 0, none⟩), .pointer (some ⟨b 1, 0, none⟩), .pointer (some ⟨b 2, 0, none⟩), .pointer (some ⟨b 3, 0, none⟩), .pointer (some ⟨b 4, 0, none⟩), .pointer (some ⟨b 5, 0, none⟩), .pointer (some ⟨b 6, 0, none⟩), .pointer (some ⟨b 7, 0, none⟩), .pointer (some ⟨b 8, 0, none⟩), .pointer (some ⟨b 9, 0, none⟩), .pointer (some ⟨b 10, 0, none⟩), .pointer (some ⟨b 11, 0, none⟩)] 330)).cell? ⟨w.heap.size, 3, none⟩ = some (.bool ge)) ∧ Below (w2.alloc (.cells #[.pointer (some ⟨b 0, 0, none⟩), .pointer (some ⟨b 1, 0, none⟩), .pointer (some ⟨b 2, 0, none⟩), .pointer (some ⟨b 3, 0, none⟩), .pointer (some ⟨b 4, 0, none⟩), .pointer (some ⟨b 5, 0, none⟩), .pointer (some ⟨b 6, 0, none⟩), .pointer (some ⟨b 7, 0, none⟩), .pointer (some ⟨b 8, 0, none⟩), .pointer (some ⟨b 9, 0, none⟩), .pointer (some ⟨b 10, 0, none⟩), .pointer (some ⟨b 11, 0, none⟩)] 330)).heap.size (w2.alloc (.cells #[.pointer (some ⟨b 0, 0, none⟩), .pointer (some ⟨b 1, 0, none⟩), .pointer (some ⟨b 2, 0, none⟩), .pointer (some ⟨b 3, 0, none⟩), .pointer (some ⟨b 4, 0, none⟩), .pointer (some ⟨b 5, 0, none⟩), .pointer (some ⟨b 6, 0, none⟩), .pointer (some ⟨b 7, 0, none⟩), .pointer (some ⟨b 8, 0, none⟩), .pointer (some ⟨b 9, 0, none⟩), .pointer (some ⟨b 10, 0, none⟩), .pointer (some ⟨b 11, 0, none⟩)] 330)) (w2.alloc (.cells #[.pointer (some ⟨b 0, 0, none⟩), .pointer (some ⟨b 1, 0, none⟩), .pointer (some ⟨b 2, 0, none⟩), .pointer (some ⟨b 3, 0, none⟩), .pointer (some ⟨b 4, 0, none⟩), .pointer (some ⟨b 5, 0, none⟩), .pointer (some ⟨b 6, 0, none⟩), .pointer (some ⟨b 7, 0, none⟩), .pointer (some ⟨b 8, 0, none⟩), .pointer (some ⟨b 9, 0, none⟩), .pointer (some ⟨b 10, 0, none⟩), .pointer (some ⟨b 11, 0, none⟩)] 330))) := HKS _ (Below.refl _ _)
    clear HKS
    clear x0 x1 x2 x3 y0 y1 y2 y3
    go_wp2
    go_region_held3 (fun w' => (w'.cell? ⟨mb, 0, none⟩ = some (.string kx) ∧ w'.cell? ⟨mb, 1, none⟩ = some (.string vx) ∧ w'.cell? ⟨mb, 2, none⟩ = some (.int .i64 sx) ∧ w'.cell? ⟨mb, 3, none⟩ = some (.bool gx)) ∧ (w'.cell? ⟨w.heap.size, 0, none⟩ = some (.string ke) ∧ w'.cell? ⟨w.heap.size, 1, none⟩ = some (.string ve) ∧ w'.cell? ⟨w.heap.size, 2, none⟩ = some (.int .i64 se) ∧ w'.cell? ⟨w.heap.size, 3, none⟩ = some (.bool ge)) ∧ Below (w2.alloc (.cells #[.pointer (some ⟨b 0, 0, none⟩), .pointer (some ⟨b 1, 0, none⟩), .pointer (some ⟨b 2, 0, none⟩), .pointer (some ⟨b 3, 0, none⟩), .pointer (some ⟨b 4, 0, none⟩), .pointer (some ⟨b 5, 0, none⟩), .pointer (some ⟨b 6, 0, none⟩), .pointer (some ⟨b 7, 0, none⟩), .pointer (some ⟨b 8, 0, none⟩), .pointer (some ⟨b 9, 0, none⟩), .pointer (some ⟨b 10, 0, none⟩), .pointer (some ⟨b 11, 0, none⟩)] 330)).heap.size (w2.alloc (.cells #[.pointer (some ⟨b 0, 0, none⟩), .pointer (some ⟨b 1, 0, none⟩), .pointer (some ⟨b 2, 0, none⟩), .pointer (some ⟨b 3, 0, none⟩), .pointer (some ⟨b 4, 0, none⟩), .pointer (some ⟨b 5, 0, none⟩), .pointer (some ⟨b 6, 0, none⟩), .pointer (some ⟨b 7, 0, none⟩), .pointer (some ⟨b 8, 0, none⟩), .pointer (some ⟨b 9, 0, none⟩), .pointer (some ⟨b 10, 0, none⟩), .pointer (some ⟨b 11, 0, none⟩)] 330)) w')
      (with_reducible first | exact HAL.out | exact HKSH.out _ (Below.refl _ _).drew | exact HKSH.out _ (below_dw (by assumption)) | assumption)
      (first
        | (go_at_call 208; refine (HSA _).mono ?_; rintro e w4 ⟨rfl, hb4⟩)
        | fail)
    rename_i hh
    have HOz : Hid (OnP w Z lk w2.heap.size al b ⟨ke, ve, se, ge⟩ w4) := HO.out.next hh.2.2
    clear hh hb4 HKSH HAL HSA d4 cn HO
    generalize w2.heap.size = g at *
    cases r with
    | true =>
      have HE : Hid (l' = eosN al ∧ E = 100) := by
        have h := HRE.out
        unfold putR at h
        rw [if_pos (HSM.out.2 rfl)] at h
        exact ⟨(Prod.mk.inj h).1.symm, (Prod.mk.inj h).2.symm⟩
      go_wp2
      go_ret
      exact ⟨by rw [HE.out.2]; rfl, ⟨al, HOz.out.sk, HE.out.1.symm⟩, kept_below HOz.out.bel⟩
    | false =>
      have HNS : Hid (¬ (placeE (eosN al) ⟨ke, ve, se, ge⟩ < (eosN al).length ∧ sameE ((eosN al).getD (placeE (eosN al) ⟨ke, ve, se, ge⟩) zeroE) ⟨ke, ve, se, ge⟩ = true)) := fun h => by have := HSM.out.1 h; cases this
      clear HSM
      generalize w4 = wz at *
      have hl := HOz.out.sk.links
      have l1 : wz.cell? ⟨lk, 1, none⟩ = some (.int .i64 ((al.length - 1 : Nat) : Int)) := Lib.cell_of_heap hl 1
      have l1f := frozen_row hl 1
      obtain ⟨c, hc⟩ : ∃ c, al.length - 1 = c := ⟨_, rfl⟩
      rw [hc] at l1
      have HC : Hid (al.length - 1 = c) := hc
      clear hl hc
      by_cases hcm : c = 4096
      · have HE : Hid (l' = eosN al ∧ E = 4) := by
          have h := HRE.out
          unfold putR at h
          rw [if_neg HNS.out, if_pos (by rw [eosN_len, HC.out]; omega)] at h
          exact ⟨(Prod.mk.inj h).1.symm, (Prod.mk.inj h).2.symm⟩
        subst hcm
        go_wp2
        go_ret
        exact ⟨by rw [HE.out.2]; rfl, ⟨al, HOz.out.sk, HE.out.1.symm⟩, kept_below HOz.out.bel⟩
      · have HCM : Hid (c < 4096) := by have h1 := HLN.out; have h2 := HC.out; show _ < _; omega
        have hcI : ((c : Int) == 4096) = false := by simp; omega
        have hcI2 : (c : Int) < 4096 := by have := HCM.out; omega
        have hcI3 : (0 : Int) ≤ (c : Int) := by omega
        clear hcm
        obtain ⟨c1, hc1⟩ : ∃ c1 : Nat, (c : Int) + 1 = (c1 : Int) := ⟨c + 1, by omega⟩
        have HC1 : Hid (c1 = al.length) := by have h1 := HC.out; have h2 := HOz.out.sk.pos; show _ = _; omega
        have HCW : Hid ((c : Int) + 1 = (c1 : Int)) := hc1
        clear hc1
        go_wp2
        rw [HCW.out]
        have H5 : Hid (Kept Z w (wz.setCell ⟨lk, 1, none⟩ (.int .i64 (c1 : Int)))) := (kept_below HOz.out.bel).trans (kept_set HOz.out.sk.links (.inr rfl) HOz.out.sk.lkb _)
        have X5 : Hid ((wz.setCell ⟨lk, 1, none⟩ (.int .i64 (c1 : Int))).heap[w.heap.size]? = some (.cells #[.string ke, .string ve, .int .i64 se, .bool ge] 66 (0, 0))) := set_typ HOz.out.sk.links HOz.out.xb (by decide) _
        have A5 : Hid ((wz.setCell ⟨lk, 1, none⟩ (.int .i64 (c1 : Int))).heap[g]? = some (.cells (agA b) 330 (0, 0))) := set_typ HOz.out.sk.links HOz.out.ab (by decide) _
        have L5 : Hid ((wz.setCell ⟨lk, 1, none⟩ (.int .i64 (c1 : Int))).heap[lk]? = some (.cells #[ptN (al.getD 0 zN), .int .i64 (c1 : Int)] 329 (0, 0))) := heap_setCell_same wz lk 1 _ _ _ HOz.out.sk.links
        have N5 : Hid (∀ p, p < al.length → (wz.setCell ⟨lk, 1, none⟩ (.int .i64 (c1 : Int))).heap[(al.getD p zN).nb]? = some (.cells (nodC (al.getD p zN)) 327 (0, 0))) := fun p hp => set_typ HOz.out.sk.links (HOz.out.sk.nod p hp).2 (by decide) _
        have P5 : Hid (∀ p, p < al.length → ∃ cs, (wz.setCell ⟨lk, 1, none⟩ (.int .i64 (c1 : Int))).heap[(al.getD p zN).bb]? = some (.cells cs 324 (0, 0)) ∧ cs.size = (al.getD p zN).ht ∧ ∀ h, h < (al.getD p zN).ht → cs[h]? = some (ptO (nxN h (al.drop (p + 1))))) := fun p hp => by
          obtain ⟨_, cs, q1, q2⟩ := HOz.out.sk.nxt p hp
          exact ⟨cs, set_typ HOz.out.sk.links q1 (by decide) _, q2⟩
        clear l1 l1f hcI hcI2 hcI3
        generalize wz.setCell ⟨lk, 1, none⟩ (.int .i64 (c1 : Int)) = w5 at *
        have HKS : ∀ w', Below w5.heap.size w5 w' → (w'.cell? ⟨w.heap.size, 0, none⟩ = some (.string ke) ∧ w'.cell? ⟨w.heap.size, 1, none⟩ = some (.string ve) ∧ w'.cell? ⟨w.heap.size, 2, none⟩ = some (.int .i64 se) ∧ w'.cell? ⟨w.heap.size, 3, none⟩ = some (.bool ge)) ∧ w'.cell? ⟨lk, 1, none⟩ = some (.int .i64 ((c1 : Nat) : Int)) ∧ Below w5.heap.size w5 w' := fun w' hb => by
          obtain ⟨q0, q1, q2, q3⟩ := four_cells (block_below' X5.out hb)
          exact ⟨⟨q0, q1, q2, q3⟩, Lib.cell_of_heap (block_below' L5.out hb) 1, hb⟩
        have HKSH : Hid (∀ w', Below w5.heap.size w5 w' → (w'.cell? ⟨w.heap.size, 0, none⟩ = some (.string ke) ∧ w'.cell? ⟨w.heap.size, 1, none⟩ = some (.string ve) ∧ w'.cell? ⟨w.heap.size, 2, none⟩ = some (.int .i64 se) ∧ w'.cell? ⟨w.heap.size, 3, none⟩ = some (.bool ge)) ∧ w'.cell? ⟨lk, 1, none⟩ = some (.int .i64 ((c1 : Nat) : Int)) ∧ Below w5.heap.size w5 w') := HKS
        have HAL : Hid ((w5.cell? ⟨w.heap.size, 0, none⟩ = some (.string ke) ∧ w5.cell? ⟨w.heap.size, 1, none⟩ = some (.string ve) ∧ w5.cell? ⟨w.heap.size, 2, none⟩ = some (.int .i64 se) ∧ w5.cell? ⟨w.heap.size, 3, none⟩ = some (.bool ge)) ∧ w5.cell? ⟨lk, 1, none⟩ = some (.int .i64 ((c1 : Nat) : Int)) ∧ Below w5.heap.size w5 w5) := HKS w5 (Below.refl _ _)
        clear HKS
        have HHT : ∀ w', ((w'.cell? ⟨w.heap.size, 0, none⟩ = some (.string ke) ∧ w'.cell? ⟨w.heap.size, 1, none⟩ = some (.string ve) ∧ w'.cell? ⟨w.heap.size, 2, none⟩ = some (.int .i64 se) ∧ w'.cell? ⟨w.heap.size, 3, none⟩ = some (.bool ge)) ∧ w'.cell? ⟨lk, 1, none⟩ = some (.int .i64 ((c1 : Nat) : Int)) ∧ Below w5.heap.size w5 w') → Calls Tryz.prog 209 #[.int .i64 (c1 : Int)] w' fun e w'' => (∃ k : Nat, 1 ≤ k ∧ k ≤ 12 ∧ e = .returned (.int .i64 (k : Int))) ∧ w'' = w' := fun w' hS => height_any c1 w' ((HLA.out.kept H5.out HB2.out.1).below hS.2.2 (by have h1 := H5.out.size; have h2 := HLA.out.size; omega)) (by have h1 := HC1.out; have h2 := HS.out.pos; omega) (by have h1 := HC1.out; have h2 := HLN.out; omega)
        go_region_held3 (fun w' => (w'.cell? ⟨w.heap.size, 0, none⟩ = some (.string ke) ∧ w'.cell? ⟨w.heap.size, 1, none⟩ = some (.string ve) ∧ w'.cell? ⟨w.heap.size, 2, none⟩ = some (.int .i64 se) ∧ w'.cell? ⟨w.heap.size, 3, none⟩ = some (.bool ge)) ∧ w'.cell? ⟨lk, 1, none⟩ = some (.int .i64 ((c1 : Nat) : Int)) ∧ Below w5.heap.size w5 w')
          (with_reducible first | exact HAL.out | exact HKSH.out _ (Below.refl _ _).drew | exact HKSH.out _ (below_alloc _ _).drew | exact HKSH.out _ (below_alloc _ _) | exact HKSH.out _ (below_bt (below_alloc _ _) (below_alloc _ _)).drew | exact HKSH.out _ (below_bt (below_alloc _ _) (below_alloc _ _)) | exact HKSH.out _ (below_dw (by assumption)) | assumption)
          (first
            | (go_at_call 209; refine (HHT _ (by assumption)).mono ?_; rintro e w7 ⟨⟨k, hk1, hk2, rfl⟩, rfl⟩; have hmk := run_makeP k (by omega))
            | fail)
        rename_i hh
        have W6B : Below w5.heap.size w5 (((w5.alloc (.cells (zP k) 324)).alloc (.cells #[.string ke, .string ve, .int .i64 se, .bool ge, .slice (some ⟨w5.heap.size, 0, none⟩) k k] 327)).drew) := hh.2.2
        have HNE : Hid (∀ p, p < al.length → (al.getD p zN).bb ≠ w5.heap.size) := fun p hp e => by
          obtain ⟨cs, q1, _⟩ := P5.out p hp
          have := lt_heap q1
          omega
        have HNE2 : Hid (∀ p, p < al.length → (al.getD p zN).nb ≠ w5.heap.size + 1) := fun p hp e => by
          have := lt_heap (N5.out p hp)
          omega
        have HGB : Hid (∀ k, w5.heap.size ≤ k → Z k) := fun k hk => HB2.out.2 k (Nat.le_trans H5.out.size hk)
        have HI : Hid (InP Z lk g al f (agA b) ⟨⟨ke, ve, se, ge⟩, w5.heap.size + 1, w5.heap.size, k⟩ 0 (((w5.alloc (.cells (zP k) 324)).alloc (.cells #[.string ke, .string ve, .int .i64 se, .bool ge, .slice (some ⟨w5.heap.size, 0, none⟩) k k] 327)).drew)) := by
          refine ⟨?_, block_below' A5.out W6B, fun p hp => block_below' (N5.out p hp) W6B, fun p hp => ?_, heap_two _ _ _, zP k, block_below' (heap_alloc_new _ _) (below_alloc _ _).drew, zP_size k, fun h hh => by omega⟩
          · have e := block_below' L5.out W6B
            rw [HC1.out] at e
            exact e
          · obtain ⟨cs, q1, q2, q3⟩ := P5.out p hp
            exact ⟨cs, block_below' q1 W6B, q2, fun h hh => by rw [q3 h hh, if_neg (by omega)]⟩
        have HK6 : Hid (Kept Z w (((w5.alloc (.cells (zP k) 324)).alloc (.cells #[.string ke, .string ve, .int .i64 se, .bool ge, .slice (some ⟨w5.heap.size, 0, none⟩) k k] 327)).drew)) := H5.out.trans (kept_below W6B)
        have HKK : Hid (1 ≤ k ∧ k ≤ 12) := ⟨hk1, hk2⟩
        have hkI : (1 : Int) ≤ (k : Int) := by omega
        have hkI2 : (k : Int) ≤ 12 := by omega
        clear hh W6B H5 X5 A5 L5 N5 P5 HKSH HAL HHT hmk hk1 hk2
        generalize World.drew _ = w6 at HI HK6 ⊢
        generalize w5.heap.size = gb at *
        have HIS : ∀ (j : Nat) (wr : World), InP Z lk g al f (agA b) ⟨⟨ke, ve, se, ge⟩, gb + 1, gb, k⟩ j wr → wr.cell? ⟨gb + 1, 4, none⟩ = some (.slice (some ⟨gb, 0, none⟩) k k) := fun j wr h => Lib.cell_of_heap h.new 4
        have HISH : Hid (∀ (j : Nat) (wr : World), InP Z lk g al f (agA b) ⟨⟨ke, ve, se, ge⟩, gb + 1, gb, k⟩ j wr → wr.cell? ⟨gb + 1, 4, none⟩ = some (.slice (some ⟨gb, 0, none⟩) k k)) := HIS
        have e4 := HIS 0 w6 HI.out
        clear HIS
        go_wp2
        go_loopw [55] (fun i wr => ∃ j : Nat, j ≤ k ∧ i = .int .i64 (j : Int) ∧ InP Z lk g al f (agA b) ⟨⟨ke, ve, se, ge⟩, gb + 1, gb, k⟩ j wr ∧ Kept Z w wr) (fun i _ => k - (intOf i).toNat)
        case atStart => exact ⟨0, by omega, rfl, HI.out, HK6.out⟩
        case round =>
          obtain ⟨j, hj, rfl, hin, hkp⟩ := hrel
          have HIN : Hid (InP Z lk g al f (agA b) ⟨⟨ke, ve, se, ge⟩, gb + 1, gb, k⟩ j wr) := hin
          have HKP : Hid (Kept Z w wr) := hkp
          clear hin hkp e4
          by_cases hjk : j < k
          · have hjI : (j : Int) < (k : Int) := by omega
            have hjI2 : (0 : Int) ≤ (j : Int) := by omega
            have hjI3 : (j : Int) < 12 := by omega
            have kw0 : IntKind.i64.wrap (j : Int) = (j : Int) := by rw [IntKind.wrap_i64]; omega
            have HJ : Hid (j < k) := hjk
            have hj12 : j < 12 := by have := HKK.out; omega
            have ha := HF.out j hj12
            obtain ⟨np, hnp⟩ : ∃ np, al.getD (f j) zN = np := ⟨_, rfl⟩
            have hnb : np.nb = b j := by rw [← hnp]; exact HBF.out j
            have q4 : wr.cell? ⟨gb + 1, 4, none⟩ = some (.slice (some ⟨gb, 0, none⟩) k k) := HISH.out j wr HIN.out
            have qa : wr.cell? ⟨g, j, none⟩ = some (.pointer (some ⟨b j, 0, none⟩)) := (cell_of_row wr g j _ _ _ HIN.out.ab).trans (agA_at hj12)
            have qn : wr.cell? ⟨b j, 4, none⟩ = some (.slice (some ⟨np.bb, 0, none⟩) np.ht np.ht) := by
              have e := HIN.out.nod (f j) ha.lt
              rw [hnp, hnb] at e
              exact Lib.cell_of_heap e 4
            have HNX2 : Hid ((al.getD (f j) zN).bb = np.bb) := by show _ = _; rw [hnp]
            have qc : wr.cell? ⟨np.bb, j, none⟩ = some (.pointer (adO (nxN j (al.drop (f j + 1))))) := by
              obtain ⟨cs, c1, c2, c3⟩ := HIN.out.nxt (f j) ha.lt
              rw [← hnp, cell_of_row wr _ j cs _ _ c1, c3 j ha.high, if_neg (by omega), ptO_eq]
            have hti : (j : Int) < ((np.ht : Nat) : Int) := by have := ha.high; rw [hnp] at this; omega
            obtain ⟨vo, qv⟩ : ∃ vo, wr.cell? ⟨gb, j, none⟩ = some vo := by
              obtain ⟨cs, c1, c2, _⟩ := HIN.out.newb
              exact ⟨cs[j]'(by rw [c2]; exact hjk), (cell_of_row wr gb j cs _ _ c1).trans (Array.getElem?_eq_getElem _)⟩
            have qf : wr.frozen? ⟨gb, j, none⟩ = false := by
              obtain ⟨cs, c1, _⟩ := HIN.out.newb
              exact frozen_row c1 j
            have HST := HIN.out.step (k := j) hjk ha.lt ha.high HS.out.apart HNE.out
            rw [ptO_eq, hnp] at HST
            have HKT : Hid (∀ vv vu : Value, Kept Z w ((wr.setCell ⟨gb, j, none⟩ vv).setCell ⟨np.bb, j, none⟩ vu)) := fun vv vu => by
              obtain ⟨cs, c1, _⟩ := HIN.out.newb
              obtain ⟨cs2, c3, _⟩ := HIN.out.nxt (f j) ha.lt
              rw [hnp] at c3
              refine HKP.out.trans ((kept_set c1 (.inl rfl) (HGB.out gb (Nat.le_refl _)) vv).trans (kept_set (set_num c3 (by rw [← hnp]; exact HNE.out _ ha.lt) vv) (.inl rfl) ?_ vu))
              have := (HS.out.nxt (f j) ha.lt).1
              rw [hnp] at this
              exact this
            have hne : np.bb ≠ gb := by rw [← hnp]; exact HNE.out _ ha.lt
            obtain ⟨qo, hqo⟩ : ∃ qo, adO (nxN j (al.drop (f j + 1))) = qo := ⟨_, rfl⟩
            rw [hqo] at HST qc
            have HSTH : Hid (InP Z lk g al f (agA b) ⟨⟨ke, ve, se, ge⟩, gb + 1, gb, k⟩ (j + 1) ((wr.setCell ⟨gb, j, none⟩ (.pointer qo)).setCell ⟨np.bb, j, none⟩ (.pointer (some ⟨gb + 1, 0, none⟩)))) := HST
            have qc1 : (wr.setCell ⟨gb, j, none⟩ (.pointer qo)).cell? ⟨np.bb, j, none⟩ = some (.pointer qo) := (World.cell?_of_block (Below.heap_setCell wr ⟨gb, j, none⟩ _ np.bb hne)).trans qc
            have qf1 : (wr.setCell ⟨gb, j, none⟩ (.pointer qo)).frozen? ⟨np.bb, j, none⟩ = false := by
              obtain ⟨cs2, c3, _⟩ := HIN.out.nxt (f j) ha.lt
              rw [hnp] at c3
              exact frozen_row (set_num c3 hne _) j
            have qa1 : (wr.setCell ⟨gb, j, none⟩ (.pointer qo)).cell? ⟨g, j, none⟩ = some (.pointer (some ⟨b j, 0, none⟩)) := by
              obtain ⟨cs, c1, _⟩ := HIN.out.newb
              exact (cell_of_row _ g j _ _ _ (set_typ c1 HIN.out.ab (by decide) _)).trans (agA_at hj12)
            have qn1 : (wr.setCell ⟨gb, j, none⟩ (.pointer qo)).cell? ⟨b j, 4, none⟩ = some (.slice (some ⟨np.bb, 0, none⟩) np.ht np.ht) := by
              obtain ⟨cs, c1, _⟩ := HIN.out.newb
              have e := HIN.out.nod (f j) ha.lt
              rw [hnp, hnb] at e
              exact Lib.cell_of_heap (set_typ c1 e (by decide) _) 4
            clear HST hqo hne hnb hnp ha hj12 hjk hj
            obtain ⟨nne, nnb, nbb, nht⟩ := np
            simp only at *
            go_wp2
            go_region
            all_goals
              go_wp2
              go_roundw
              case rel => exact ⟨j + 1, HJ.out, by go_num, HSTH.out.drew, (HKT.out _ _).drew⟩
              case measure => have := HJ.out; simp [intOf]; omega
          · have hjI : (k : Int) ≤ (j : Int) := by omega
            have HJ : Hid (j = k) := by show _ = _; omega
            clear hjk hj
            go_wp2
            go_ret
            have hin := HIN.out
            rw [HJ.out] at hin
            have hE := HRE.out
            unfold putR at hE
            rw [if_neg HNS.out, if_neg (by rw [eosN_len, HC.out]; have := HCM.out; omega)] at hE
            refine ⟨by rw [← (Prod.mk.inj hE).2]; rfl, ⟨_, hin.done (x := ⟨ke, ve, se, ge⟩) HS.out HF.out HKK.out.1 HKK.out.2 ⟨HGB.out (gb + 1) (Nat.le_succ _), HGB.out gb (Nat.le_refl _)⟩ HNE.out HNE2.out, ?_⟩, HKP.out⟩
            rw [ents_ins (x := ⟨ke, ve, se, ge⟩) rfl (HF.out 0 (by omega)) (fun q hq => (HS.out.high q hq).1)]
            exact (Prod.mk.inj hE).1
theorem put_row {l : List EntV} (hc : checkE l = 0) {x : EntV} (h1 : oneE x = 0) : putR l x = (stepE l x, (putE l x).2) := by
  have hr := ((checkE_rise l).1 hc).2.2
  have hsame : (placeE l x < l.length ∧ sameE (l.getD (placeE l x) zeroE) x = true) ↔ (placeE l x < l.length ∧ lessE x (l.getD (placeE l x) zeroE) = false) := by
    constructor
    · rintro ⟨a, b⟩
      refine ⟨a, ?_⟩
      unfold sameE at b
      simp only [Bool.and_eq_true, decide_eq_true_eq] at b
      exact lessE_same ⟨b.1.symm, b.2.symm⟩
    · rintro ⟨a, b⟩
      refine ⟨a, ?_⟩
      have := lessE_tri (place_at l x a) b
      unfold sameE
      simp only [Bool.and_eq_true, decide_eq_true_eq]
      exact this
  unfold putR stepE putE
  rw [if_neg (by simp [hc] : ¬ checkE l ≠ 0), if_neg (by simp [h1] : ¬ oneE x ≠ 0)]
  by_cases hs : placeE l x < l.length ∧ lessE x (l.getD (placeE l x) zeroE) = false
  · rw [if_pos (hsame.2 hs), if_pos hs]; rfl
  · rw [if_neg (fun h => hs (hsame.1 h)), if_neg hs]
    by_cases hm : 4096 ≤ l.length
    · rw [if_pos hm, if_pos hm]; rfl
    · rw [if_neg hm, if_neg hm]; rfl
theorem kept_row {Z : Nat → Prop} {w w' : World} {r : Nat} {cs : Array Value} {fr : Nat × Nat} (h : w.heap[r]? = some (.cells cs 275 fr)) (hk : Kept Z w w') : w'.heap[r]? = some (.cells cs 275 fr) := hk.typ _ _ _ _ h (by decide) (by decide)
set_option maxHeartbeats 2000000 in
theorem rowPut_any (Z : Nat → Prop) (r : Nat) (l : List EntV) (x : EntV) (w : World) (h : RowIn w Z r l) (hc : checkE l = 0) (hL : Laid w) (hb2 : ¬ Z 3) (hbw : ∀ k, w.heap.size ≤ k → Z k) (l' : List EntV) (E : Nat) (hl' : stepE l x = l') (hE : (putE l x).2 = E) :
    Calls Tryz.prog 115 #[.pointer (some ⟨r, 0, none⟩), entV x] w fun e w' => e = .returned (.int .i64 (E : Int)) ∧ RowIn w' Z r l' ∧ Kept Z w w' := by
  obtain ⟨lk, al, hbr, hrb, hs, hal⟩ := h.out
  have HS : Hid (Skip w Z lk al) := hs
  have HRB : Hid (Z r ∧ w.heap[r]? = some (.cells #[.pointer (some ⟨lk, 0, none⟩)] 275 (0, 0))) := ⟨hbr, hrb⟩
  have HAL : Hid (eosN al = l) := hal
  have HC : Hid (checkE l = 0) := hc
  have HLA : Hid (Laid w) := hL
  have HB2 : Hid (¬ Z 3 ∧ ∀ k, w.heap.size ≤ k → Z k) := ⟨hb2, hbw⟩
  have HR : Hid (stepE l x = l' ∧ (putE l x).2 = E) := ⟨hl', hE⟩
  obtain ⟨O, hO⟩ : ∃ O, oneE x = O := ⟨_, rfl⟩
  have HO : Hid (oneE x = O) := hO
  have H1 := fun w' => checkOne_any x w' O hO
  have HMD := fun w' h => made_yes r lk w' h
  obtain ⟨ke, ve, se, ge⟩ := x
  rw [entV_def] at H1 ⊢
  clear hs hrb hbr hal hc hL hb2 hbw hl' hE h hO
  have bx := below_alloc w (.cells #[.string ke, .string ve, .int .i64 se, .bool ge] 66)
  have HBX : Hid ((w.alloc (.cells #[.string ke, .string ve, .int .i64 se, .bool ge] 66)).heap[w.heap.size]? = some (.cells #[.string ke, .string ve, .int .i64 se, .bool ge] 66 (0, 0))) := heap_alloc_new _ _
  have hcr : (w.alloc (.cells #[.string ke, .string ve, .int .i64 se, .bool ge] 66)).cell? ⟨r, 0, none⟩ = some (.pointer (some ⟨lk, 0, none⟩)) := Lib.cell_of_heap (block_below' HRB.out.2 bx) 0
  go_enter Tryz.func115, Tryz.ntmps115
  go_wp2_with fail
  refine (HMD _ hcr).mono ?_
  rintro e w1 ⟨rfl, rfl⟩
  clear HMD hcr
  go_wp2_with fail
  refine (H1 _).mono ?_
  rintro e w2 ⟨rfl, hb3⟩
  have HB : Hid (Below w.heap.size w w2) := below_bt bx hb3
  have HX : Hid (w2.heap[w.heap.size]? = some (.cells #[.string ke, .string ve, .int .i64 se, .bool ge] 66 (0, 0))) := block_below' HBX.out hb3
  clear H1 hb3 bx HBX
  rcases Nat.eq_zero_or_pos O with h0 | h0
  · subst h0
    have hs2 := HS.out.below HB.out
    have hcr : w2.cell? ⟨r, 0, none⟩ = some (.pointer (some ⟨lk, 0, none⟩)) := Lib.cell_of_heap (block_below' HRB.out.2 HB.out) 0
    obtain ⟨x0, x1, x2, x3⟩ := four_cells HX.out
    have hcc := (checkE_rise l).1 HC.out
    have HPR := put_row HC.out HO.out
    rw [HR.out.1, HR.out.2, ← HAL.out] at HPR
    have HPT := fun w' (hw : Below w2.heap.size w2 w') => putL_any Z lk al ⟨ke, ve, se, ge⟩ w' (hs2.below hw) (by rw [HAL.out]; exact hcc.2.2) (by have h1 := eosN_len al; rw [HAL.out] at h1; have h2 := hcc.1; have := HS.out.pos; omega) (HLA.out.below (below_bt HB.out hw) HLA.out.size) HB2.out.1 (fun k hk => HB2.out.2 k (by have h1 := HB.out.size; have h3 := hw.size; omega)) l' E HPR
    simp only [entV_def] at HPT
    clear hcc HPR hs2
    go_wp2
    go_region_with (go_at_call 150; refine (HPT _ (by first | exact (Below.refl _ _).drew | exact Below.refl _ _)).mono ?_; rintro e w3 ⟨rfl, hal3, hk3⟩)
    all_goals
      have hk : Kept Z w w3 := by first | exact (kept_below HB.out).drew.trans hk3 | exact (kept_below HB.out).trans hk3
      have HK : Hid (Kept Z w w3) := hk
      have HA3 : Hid (∃ al', Skip w3 Z lk al' ∧ eosN al' = l') := hal3
      clear hk hk3 hal3
      go_wp2
      go_ret
      obtain ⟨al', g1, g2⟩ := HA3.out
      have hrw := kept_row HRB.out.2 HK.out
      first
        | exact ⟨rfl, ⟨lk, al', HRB.out.1, hrw, g1, g2⟩, HK.out⟩
        | exact ⟨rfl, ⟨lk, al', HRB.out.1, hrw, ⟨g1.pos, g1.head, g1.lkb, g1.links, g1.nod, g1.nxt, g1.high, g1.apart, g1.apartn⟩, g2⟩, HK.out.drew⟩
  · have hO1 : ((O : Int) == 0) = false := by simp; omega
    have HOp : Hid (0 < O) := h0
    clear h0
    go_wp2
    go_ret
    have hp := putE_one HC.out (x := ⟨ke, ve, se, ge⟩) (by rw [HO.out]; have := HOp.out; omega)
    rw [HO.out] at hp
    refine ⟨?_, ?_, kept_below HB.out⟩
    · rw [← HR.out.2, hp]; rfl
    · rw [← HR.out.1, stepE_no (by rw [hp]; show O ≠ 0; have := HOp.out; omega)]
      exact ⟨lk, al, HRB.out.1, block_below' HRB.out.2 HB.out, HS.out.below HB.out, HAL.out⟩
set_option maxHeartbeats 2000000 in
theorem rowAll_any (Z : Nat → Prop) (r : Nat) (l : List EntV) (w : World) (h : RowIn w Z r l) (hc : checkE l = 0) :
    Calls Tryz.prog 116 #[.pointer (some ⟨r, 0, none⟩)] w fun e w' => (∃ q c, e = .returned (.tuple #[.slice q l.length c, .int .i64 0]) ∧ EOwn w' w.heap.size (.slice q l.length c) l) ∧ Below w.heap.size w w' := by
  obtain ⟨lk, al, hbr, hrb, hs, hal⟩ := h.out
  have hcr : w.cell? ⟨r, 0, none⟩ = some (.pointer (some ⟨lk, 0, none⟩)) := Lib.cell_of_heap hrb 0
  have HMD := fun w' h => made_yes r lk w' h
  have HA := all_any Z lk al w hs (by have h1 := eosN_len al; rw [hal] at h1; have h2 := ((checkE_rise l).1 hc).1; have := hs.pos; omega)
  rw [hal] at HA
  clear hs hal hc h hbr hrb
  go_enter Tryz.func116, Tryz.ntmps116
  go_wp2_with fail
  refine (HMD _ hcr).mono ?_
  rintro e w1 ⟨rfl, rfl⟩
  clear HMD
  go_wp2_with fail
  refine HA.mono ?_
  rintro e w2 ⟨⟨v, rfl, hv⟩, hb⟩
  obtain ⟨q, c, rfl, _, _, _⟩ := hv.form
  have HV : Hid (EOwn w2 w1.heap.size (.slice q l.length c) l) := hv
  have HB : Hid (Below w1.heap.size w1 w2) := hb
  clear hv hb HA hcr
  go_wp2
  go_ret2
  exact ⟨⟨q, c, rfl, HV.out⟩, HB.out⟩
theorem EntsIn.drop' {w : World} {b o : Nat} {l : List EntV} (h : EntsIn w (some ⟨b, o, none⟩) l) (k : Nat) : EntsIn w (some ⟨b, o + k * 4, none⟩) (l.drop k) := by
  intro hp
  rw [List.length_drop] at hp
  refine ⟨b, o + k * 4, rfl, fun i hi => ?_⟩
  rw [List.length_drop] at hi
  obtain ⟨c0, c1, c2, c3⟩ := h.at (k := k + i) (by omega)
  rw [show (l.drop k).getD i zeroE = l.getD (k + i) zeroE by rw [List.getD_eq_getElem?_getD, List.getElem?_drop, ← List.getD_eq_getElem?_getD]]
  exact ⟨by rw [show o + k * 4 + i * 4 = o + (k + i) * 4 by omega]; exact c0, by rw [show o + k * 4 + (i * 4 + 1) = o + (k + i) * 4 + 1 by omega]; exact c1, by rw [show o + k * 4 + (i * 4 + 2) = o + (k + i) * 4 + 2 by omega]; exact c2, by rw [show o + k * 4 + (i * 4 + 3) = o + (k + i) * 4 + 3 by omega]; exact c3⟩
theorem cutE_from (q : Option Addr) (n c k : Nat) (l : List EntV) (hn : n = l.length) (hc : n ≤ c) (hk : k ≤ n) (hp : q = none → c = 0) :
    ∃ p', (∀ w, (Instr.slice 58 (.slice q n c) (some (.int .i64 (k : Int))) none none).run Tryz.prog w = .ok (.slice p' (n - k) (c - k)) w) ∧ (∀ w, EntsIn w q l → EntsIn w p' (l.drop k)) ∧ (p' = none → c - k = 0) := by
  have hr : ∀ w, (Instr.slice 58 (.slice q n c) (some (.int .i64 k)) none none).run Tryz.prog w = .ok (.slice (if c = k then q else q.map (·.add (k * 4))) (n - k) (c - k)) w := by
    intro w
    rw [run_slice_l w 58 q n c (by kernel_rfl) .i64 k (by omega) (by omega)]
    have hs : (sizeOf (Tryz.prog.elem 58)).run Tryz.prog w = .ok 4 w := by kernel_rfl
    rw [hs]
    rfl
  cases q with
  | none =>
    have hc0 := hp rfl
    have : k = 0 := by omega
    subst this
    exact ⟨_, hr, fun w h => by rw [List.drop_zero, if_pos hc0]; exact h, fun _ => by omega⟩
  | some a =>
    refine ⟨_, hr, fun w h => ?_, fun h => by split at h <;> simp at h⟩
    rcases Nat.eq_zero_or_pos (l.length - k) with h0 | h0
    · intro hp2
      rw [List.length_drop] at hp2
      omega
    · obtain ⟨b, o, e, _⟩ := h (by omega)
      simp only [Option.some.injEq] at e
      subst e
      rw [if_neg (by omega), Option.map_some, add_plain]
      exact h.drop' k
structure RV where
  q : Option Addr
  n : Nat
  c : Nat
  l : List EntV
def zR : RV := ⟨none, 0, 0, []⟩
def rvV (r : RV) : Value := .slice r.q r.n r.c
def headR (r : RV) : EntV := r.l.getD 0 zeroE
def ltR (a b : RV) : Bool := lessE (headR a) (headR b)
theorem lessE_irr (a : EntV) : lessE a a = false := lessE_same ⟨rfl, rfl⟩
theorem ltR_asym (a b : RV) (h : ltR a b = true) : ltR b a = false := lessE_asymm h
theorem ltR_trans (a b c : RV) (h1 : ltR b a = false) (h2 : ltR c b = false) : ltR c a = false := weak_trans h1 h2
theorem ltR_irr (a : RV) : ltR a a = false := lessE_irr _
structure RowOk (w : World) (r : RV) : Prop where
  n : r.n = r.l.length
  lies : EntsIn w r.q r.l
  nc : r.n ≤ r.c
  c : r.c ≤ maxLen
  q : r.q = none → r.c = 0
theorem RowOk.below {w w' : World} {r : RV} (h : RowOk w r) (hb : Below w.heap.size w w') : RowOk w' r := ⟨h.n, h.lies.below hb, h.nc, h.c, h.q⟩
structure KeptR (w w' : World) : Prop where
  size : w.heap.size ≤ w'.heap.size
  typ : ∀ (b : Nat) (cs : Array Value) (t : TypeId) (fr : Nat × Nat), w.heap[b]? = some (.cells cs t fr) → t ≠ 58 → t ≠ 278 → w'.heap[b]? = some (.cells cs t fr)
theorem KeptR.refl (w : World) : KeptR w w := ⟨Nat.le_refl _, fun _ _ _ _ h _ _ => h⟩
theorem KeptR.trans {a b c : World} (h : KeptR a b) (k : KeptR b c) : KeptR a c := ⟨Nat.le_trans h.size k.size, fun _ _ _ _ e h1 h2 => k.typ _ _ _ _ (h.typ _ _ _ _ e h1 h2) h1 h2⟩
theorem block_belowR {w w' : World} {b : Nat} {o : Obj} (h : w.heap[b]? = some o) (hb : Below w.heap.size w w') : w'.heap[b]? = some o := (hb.block _ (lt_heap h)).trans h
theorem keptR_below {w w' : World} (h : Below w.heap.size w w') : KeptR w w' := ⟨h.size, fun _ _ _ _ e _ _ => block_belowR e h⟩
theorem keptR_set {w : World} {b o : Nat} {cs : Array Value} {t : TypeId} {fr : Nat × Nat} (h : w.heap[b]? = some (.cells cs t fr)) (ht : t = 58 ∨ t = 278) (v : Value) : KeptR w (w.setCell ⟨b, o, none⟩ v) := by
  have h0 : Below b w (w.setCell ⟨b, o, none⟩ v) := (Below.refl b w).setCell (p := ⟨b, o, none⟩) (Nat.le_refl b) v
  refine ⟨h0.size, fun b' cs' t' fr' e h1 h2 => (heap_setCell_other w ⟨b, o, none⟩ b' v ?_).trans e⟩
  intro hbb
  have hbb' : b' = b := hbb
  subst hbb'
  rw [h] at e
  simp only [Option.some.injEq, Obj.cells.injEq] at e
  rcases ht with ht | ht
  · exact h1 (e.2.1.symm.trans ht)
  · exact h2 (e.2.1.symm.trans ht)
structure Hp (w0 : World) (bh : Nat) (hv : Value) (R : List RV) (w : World) : Prop where
  bel : Below w0.heap.size w0 w
  bhb : w0.heap.size ≤ bh
  ptr : w.heap[bh]? = some (.cells #[hv] 278 (0, 0))
  own : w.ownsRow w0.heap.size 58 1 hv R.length (R.map rvV)
  rows : ∀ r ∈ R, RowOk w0 r ∧ 0 < r.l.length
theorem Hp.next {w0 w w' : World} {bh : Nat} {hv : Value} {R : List RV} (h : Hp w0 bh hv R w) (hb : Below w.heap.size w w') : Hp w0 bh hv R w' := ⟨below_bt h.bel hb, h.bhb, block_belowR h.ptr hb, own_below h.own hb, h.rows⟩
theorem Hp.drew {w0 w : World} {bh : Nat} {hv : Value} {R : List RV} (h : Hp w0 bh hv R w) : Hp w0 bh hv R w.drew := h.next (Below.refl _ _).drew
theorem getR_mem {R : List RV} {k : Nat} (hk : k < R.length) : R.getD k zR ∈ R := by
  rw [List.getD_eq_getElem?_getD, List.getElem?_eq_getElem hk]; exact List.getElem_mem _
theorem mapR_at {R : List RV} {k : Nat} (hk : k < R.length) : (R.map rvV)[k]? = some (rvV (R.getD k zR)) := by
  rw [List.getElem?_map, List.getD_eq_getElem?_getD, List.getElem?_eq_getElem hk]; rfl
theorem Hp.form {w0 w : World} {bh : Nat} {hv : Value} {R : List RV} (h : Hp w0 bh hv R w) (hp : 0 < R.length) : ∃ g cap cur, hv = .slice (some ⟨g, 0, none⟩) R.length cap ∧ w0.heap.size ≤ g ∧ w.heap[g]? = some (.cells cur 58 (0, 0)) ∧ R.length ≤ cap ∧ cap ≤ maxLen ∧ (∀ i, i < R.length → w.cell? ⟨g, i, none⟩ = some (rvV (R.getD i zR))) ∧ ∀ i, w.frozen? ⟨g, i, none⟩ = false := by
  have h0 := h.own
  rcases h.own.2 with ⟨_, hn⟩ | ⟨g, cap, cur, hv', hb, hg, hle, hmax, hsz, htk⟩
  · omega
  · subst hv'
    exact ⟨g, cap, cur, rfl, hb, hg, hle, hmax, fun i hi => (World.ownsRow.cellAt h0 i (by omega)).trans (mapR_at hi), fun i => World.ownsRow.frozenAt h0 i⟩
theorem Hp.row {w0 w : World} {bh : Nat} {hv : Value} {R : List RV} (h : Hp w0 bh hv R w) {i : Nat} (hi : i < R.length) : ∃ (b o n c : Nat) (k v : ByteArray) (s : Int) (d : Bool), rvV (R.getD i zR) = .slice (some ⟨b, o, none⟩) n c ∧ 0 < n ∧ headR (R.getD i zR) = ⟨k, v, s, d⟩ ∧ C4 w b o (.string k) (.string v) (.int .i64 s) (.bool d) := by
  obtain ⟨hr, hp⟩ := h.rows _ (getR_mem hi)
  obtain ⟨⟨q, n, c, l⟩, hR⟩ : ∃ r, R.getD i zR = r := ⟨_, rfl⟩
  rw [hR] at hr hp ⊢
  simp only at hp
  obtain ⟨b, o, rfl⟩ := hr.lies.addr hp
  have h4 := (hr.lies.below h.bel).at (k := 0) hp
  obtain ⟨⟨k, v, s, d⟩, hy⟩ : ∃ y, l.getD 0 zeroE = y := ⟨_, rfl⟩
  rw [hy] at h4
  simp only [Nat.zero_mul, Nat.add_zero] at h4
  exact ⟨b, o, n, c, k, v, s, d, rfl, by have := hr.n; simp only at this; omega, hy, h4⟩
theorem Hp.set {w0 w : World} {bh g cap : Nat} {R : List RV} (h : Hp w0 bh (.slice (some ⟨g, 0, none⟩) R.length cap) R w) {i : Nat} (hi : i < R.length) (r : RV) (hr : RowOk w0 r ∧ 0 < r.l.length) : Hp w0 bh (.slice (some ⟨g, 0, none⟩) R.length cap) (R.set i r) (w.setCell ⟨g, i, none⟩ (rvV r)) := by
  obtain ⟨g', cap', cur, e, hb, hg, _⟩ := h.form (by omega)
  simp only [Value.slice.injEq, Option.some.injEq, Addr.mk.injEq] at e
  obtain ⟨⟨rfl, _⟩, _, rfl⟩ := e
  have hne : bh ≠ g := by
    intro e
    subst e
    have := h.ptr
    rw [hg] at this
    simp at this
  refine ⟨h.bel.setCell (p := ⟨g, i, none⟩) hb _, h.bhb, ?_, ?_, fun x hx => ?_⟩
  · rw [heap_setCell_other w ⟨g, i, none⟩ bh _ hne]; exact h.ptr
  · have := World.ownsRow.stored h.own i (rvV r)
    rw [List.length_set, List.map_set]
    exact this.1
  · rcases List.mem_or_eq_of_mem_set hx with hx | rfl
    · exact h.rows x hx
    · exact hr
theorem Hp.swap {w0 w : World} {bh g cap : Nat} {R : List RV} (h : Hp w0 bh (.slice (some ⟨g, 0, none⟩) R.length cap) R w) {i j : Nat} (hi : i < R.length) (hj : j < R.length) : Hp w0 bh (.slice (some ⟨g, 0, none⟩) R.length cap) (swp zR R i j) ((w.setCell ⟨g, i, none⟩ (rvV (R.getD j zR))).setCell ⟨g, j, none⟩ (rvV (R.getD i zR))) := by
  have h1 := h.set hi (R.getD j zR) (h.rows _ (getR_mem hj))
  have e : (R.set i (R.getD j zR)).length = R.length := List.length_set
  rw [← e] at h1
  have h2 := h1.set (i := j) (by rw [e]; exact hj) (R.getD i zR) (h.rows _ (getR_mem hi))
  rw [e] at h2
  exact h2
theorem Hp.keptS {w0 w : World} {bh g cap : Nat} {R : List RV} (h : Hp w0 bh (.slice (some ⟨g, 0, none⟩) R.length cap) R w) (hp : 0 < R.length) (i : Nat) (v : Value) : KeptR w (w.setCell ⟨g, i, none⟩ v) := by
  obtain ⟨g', cap', cur, e, hb, hg, _⟩ := h.form hp
  simp only [Value.slice.injEq, Option.some.injEq, Addr.mk.injEq] at e
  obtain ⟨⟨rfl, _⟩, _, rfl⟩ := e
  exact keptR_set hg (.inl rfl) v
theorem cell_below {w w' : World} {a : Addr} {v : Value} (h : w.cell? a = some v) (hb : Below w.heap.size w w') : w'.cell? a = some v := (hb.cell (World.block_lt_of_cell? _ _ h)).trans h
set_option maxHeartbeats 1000000 in
theorem hLess_any (w0 : World) (bh : Nat) (hv : Value) (R : List RV) (w : World) (h : Hp w0 bh hv R w) (i j : Nat) (hi : i < R.length) (hj : j < R.length) (r : Bool) (hr : ltR (R.getD i zR) (R.getD j zR) = r) :
    Calls Tryz.prog 381 #[hv, .int .i64 (i : Int), .int .i64 (j : Int)] w fun e w' => e = .returned (.bool r) ∧ Below w.heap.size w w' := by
  obtain ⟨g, cap, cur, rfl, hgb, hg, hle, hmax, hc, hf⟩ := h.form (by omega)
  obtain ⟨b1, o1, n1, c1, k1, v1, s1, d1, e1, p1, y1, q1⟩ := h.row hi
  obtain ⟨b2, o2, n2, c2, k2, v2, s2, d2, e2, p2, y2, q2⟩ := h.row hj
  have HLE := fun w' => less_any ⟨k1, v1, s1, d1⟩ ⟨k2, v2, s2, d2⟩ w'
  have h1 := hc i hi
  have h2 := hc j hj
  rw [e1] at h1
  rw [e2] at h2
  unfold ltR at hr
  rw [y1, y2] at hr
  rw [hr, entV_def, entV_def] at HLE
  obtain ⟨m, hm⟩ : ∃ m, R.length = m := ⟨_, rfl⟩
  have i0 : (0 : Int) ≤ (i : Int) := by omega
  have j0 : (0 : Int) ≤ (j : Int) := by omega
  rw [hm] at hi hj ⊢
  have i1 : (i : Int) < (m : Int) := by omega
  have j1 : (j : Int) < (m : Int) := by omega
  have n1' : (0 : Int) < (n1 : Int) := by omega
  have n2' : (0 : Int) < (n2 : Int) := by omega
  have H1 : Hid (w.cell? ⟨g, i, none⟩ = some (.slice (some ⟨b1, o1, none⟩) n1 c1)) := h1
  have H2 : Hid (w.cell? ⟨g, j, none⟩ = some (.slice (some ⟨b2, o2, none⟩) n2 c2)) := h2
  have Q1 : Hid (C4 w b1 o1 (.string k1) (.string v1) (.int .i64 s1) (.bool d1)) := q1
  have Q2 : Hid (C4 w b2 o2 (.string k2) (.string v2) (.int .i64 s2) (.bool d2)) := q2
  clear h1 h2 q1 q2 e1 e2 y1 y2 hr hc hf hg h hle hmax hgb hm hi hj
  go_enter Tryz.func381, Tryz.ntmps381
  go_wp2
  go_region_held3 (fun w' => (w'.cell? ⟨g, i, none⟩ = some (.slice (some ⟨b1, o1, none⟩) n1 c1)) ∧ (w'.cell? ⟨g, j, none⟩ = some (.slice (some ⟨b2, o2, none⟩) n2 c2)) ∧ (w'.cell? ⟨b1, o1, none⟩ = some (.string k1) ∧ w'.cell? ⟨b1, o1 + 1, none⟩ = some (.string v1) ∧ w'.cell? ⟨b1, o1 + 2, none⟩ = some (.int .i64 s1) ∧ w'.cell? ⟨b1, o1 + 3, none⟩ = some (.bool d1)) ∧ (w'.cell? ⟨b2, o2, none⟩ = some (.string k2) ∧ w'.cell? ⟨b2, o2 + 1, none⟩ = some (.string v2) ∧ w'.cell? ⟨b2, o2 + 2, none⟩ = some (.int .i64 s2) ∧ w'.cell? ⟨b2, o2 + 3, none⟩ = some (.bool d2)) ∧ Below w.heap.size w w')
    (with_reducible first | exact ⟨H1.out, H2.out, Q1.out, Q2.out, Below.refl _ _⟩ | exact ⟨cell_below H1.out (Below.refl _ _).drew, cell_below H2.out (Below.refl _ _).drew, c4_below Q1.out (Below.refl _ _).drew, c4_below Q2.out (Below.refl _ _).drew, (Below.refl _ _).drew⟩ | exact ⟨cell_below H1.out (below_dw (by assumption)), cell_below H2.out (below_dw (by assumption)), c4_below Q1.out (below_dw (by assumption)), c4_below Q2.out (below_dw (by assumption)), below_dw (by assumption)⟩ | assumption)
    (first
      | (go_at_call 50; refine (HLE _).mono ?_; rintro e w3 ⟨rfl, hb3⟩)
      | fail)
  rename_i hh
  have HB3 : Hid (Below w.heap.size w w3) := hh.2.2.2.2
  clear hh
  go_wp2
  go_ret
  exact ⟨rfl, HB3.out⟩
set_option maxHeartbeats 1000000 in
theorem hSwap_any (w0 : World) (bh : Nat) (hv : Value) (R : List RV) (w : World) (h : Hp w0 bh hv R w) (i j : Nat) (hi : i < R.length) (hj : j < R.length) :
    Calls Tryz.prog 384 #[hv, .int .i64 (i : Int), .int .i64 (j : Int)] w fun e w' => e = .returned (.tuple #[]) ∧ Hp w0 bh hv (swp zR R i j) w' ∧ KeptR w w' := by
  obtain ⟨g, cap, cur, rfl, hgb, hg, hle, hmax, hc, hf⟩ := h.form (by omega)
  have h1 := hc i hi
  have h2 := hc j hj
  have f1 := hf i
  have f2 := hf j
  obtain ⟨⟨q1, n1, c1, l1⟩, hV1⟩ : ∃ V, R.getD i zR = V := ⟨_, rfl⟩
  obtain ⟨⟨q2, n2, c2, l2⟩, hV2⟩ : ∃ V, R.getD j zR = V := ⟨_, rfl⟩
  have hX := h.swap hi hj
  rw [hV1, hV2, show rvV ⟨q1, n1, c1, l1⟩ = .slice q1 n1 c1 from rfl, show rvV ⟨q2, n2, c2, l2⟩ = .slice q2 n2 c2 from rfl] at hX
  have HX : Hid (Hp w0 bh (.slice (some ⟨g, 0, none⟩) R.length cap) (swp zR R i j) ((w.setCell ⟨g, i, none⟩ (.slice q2 n2 c2)).setCell ⟨g, j, none⟩ (.slice q1 n1 c1))) := hX
  obtain ⟨m, hm⟩ : ∃ m, R.length = m := ⟨_, rfl⟩
  rw [hV1, show rvV ⟨q1, n1, c1, l1⟩ = .slice q1 n1 c1 from rfl] at h1
  rw [hV2, show rvV ⟨q2, n2, c2, l2⟩ = .slice q2 n2 c2 from rfl] at h2
  rw [hm] at HX hi hj ⊢
  have i0 : (0 : Int) ≤ (i : Int) := by omega
  have j0 : (0 : Int) ≤ (j : Int) := by omega
  have i1 : (i : Int) < (m : Int) := by omega
  have j1 : (j : Int) < (m : Int) := by omega
  have HG : Hid (w.heap[g]? = some (.cells cur 58 (0, 0))) := hg
  obtain ⟨V3, h3⟩ : ∃ V, (w.setCell ⟨g, i, none⟩ (.slice q2 n2 c2)).cell? ⟨g, j, none⟩ = some V := by
    by_cases e : i = j
    · subst e
      exact ⟨_, World.cell?_setCell_same _ _ _ h1⟩
    · exact ⟨_, (World.cell?_setCell_other _ _ _ _ (fun h => e (by injection h))).trans h2⟩
  have f3 : (w.setCell ⟨g, i, none⟩ (.slice q2 n2 c2)).frozen? ⟨g, j, none⟩ = false := by rw [World.frozen?_setCell]; exact f2
  clear hc hf hV1 hV2 hm hi hj h hg hle hmax hgb hX
  go_enter Tryz.func384, Tryz.ntmps384
  go_wp2
  go_region
  all_goals go_wp2
  all_goals go_end0
  all_goals exact ⟨rfl, HX.out.drew, (keptR_set HG.out (.inl rfl) _).trans ((keptR_set (heap_setCell_same w g i cur _ _ HG.out) (.inl rfl) _).trans (keptR_below (Below.refl _ _).drew))⟩
end Go.Proofs.YtghcmllmbpoidaaGreatDoor.Mg
