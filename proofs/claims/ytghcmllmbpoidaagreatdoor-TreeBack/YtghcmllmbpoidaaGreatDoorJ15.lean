import Derived.Test.YtghcmllmbpoidaaGreatDoorJ06
import Derived.Test.YtghcmllmbpoidaaGreatDoorJ12
import Derived.Test.YtghcmllmbpoidaaGreatDoorJ09
import Derived.Test.YtghcmllmbpoidaaGreatDoorJ14
import Derived.Test.YtghcmllmbpoidaaGreatDoorJ11
namespace Go.Proofs.YtghcmllmbpoidaaGreatDoor
open Go.RowKit Go.WideShapes Rm
theorem errK_fits {count : Int} {l : Pcs} (h : errK 4096 l = 0) (hc : 0 ≤ count ∧ count ≤ 4096) : errK count l = 0 ↔ ∀ p ∈ l, p.1 + p.2 ≤ count := by
  obtain ⟨_, h2, h3⟩ := errK_zero h
  constructor
  · intro h4 p hp
    have := (errK_zero h4).2.2.wn p hp
    unfold Wn at this
    omega
  · intro h4
    refine errK_ok hc h2 ⟨fun p hp => ?_, h3.apart⟩
    have := h3.wn p hp
    have := h4 p hp
    unfold Wn at *
    omega
def SlotR (lt : ByteArray → ByteArray → Prop) (count : Int) (xs : List Nat) : Option DirV → Prop
  | some x => IsDir lt x xs ∧ errK count (allPcs x.files) = 0
  | none => ∀ x, IsDir lt x xs → errK count (allPcs x.files) ≠ 0
def mountR : Option DirV → Option DirV → Option (DirV × Int)
  | some x, some y => if x.gen < y.gen then some (y, 8) else some (x, 0)
  | some x, none => some (x, 0)
  | none, some y => some (y, 8)
  | none, none => none
end Go.Proofs.YtghcmllmbpoidaaGreatDoor
namespace Go.Proofs.YtghcmllmbpoidaaGreatDoor.Dk
end Go.Proofs.YtghcmllmbpoidaaGreatDoor.Dk
namespace Go.Proofs.YtghcmllmbpoidaaGreatDoor
open Go.RowKit Go.WideShapes Rm Dk
def slotK (data : List Nat) (ws : Puts) (a k : Nat) : List Nat := (List.range k).flatMap fun i => nowN data ws ((a + i : Nat) : Int)
theorem slotK_snoc (data : List Nat) (ws : Puts) (a k : Nat) : slotK data ws a (k + 1) = slotK data ws a k ++ nowN data ws ((a + k : Nat) : Int) := by
  unfold slotK; rw [List.range_succ, List.flatMap_append]; simp
end Go.Proofs.YtghcmllmbpoidaaGreatDoor
namespace Go.Proofs.YtghcmllmbpoidaaGreatDoor
open Go.RowKit Go.WideShapes Rm
set_option maxHeartbeats 1000000 in
theorem fnow_any (v : Value) (n : Nat) (count : Int) (data : List Nat) (ws : Puts) (w : World) (hd : DiskIn w v count data ws) (ho : Okay count data ws) (hn : (n : Int) < count) :
    Calls Tryz.prog 132 #[v, .int .i64 (n : Int)] w fun e w' => (∃ g, e = .returned (.slice (some ⟨g, 0, none⟩) 128 128) ∧ BIn w' (some ⟨g, 0, none⟩) (nowN data ws n) ∧ (nowN data ws n).length = 128 ∧ ∀ c ∈ nowN data ws n, c < 256) ∧ Below w.heap.size w w' := by
  obtain ⟨p, c, q, m, rfl, _⟩ := hd.parts
  have HR := fun wx (hb : Below w.heap.size w wx) => read_okD _ n count data ws wx (hd.below hb) ho hn
  clear hd ho hn
  go_enter Tryz.func132, Tryz.ntmps132
  go_wp2_with fail
  refine (HR _ (below_alloc w _)).mono ?_
  rintro e w2 ⟨⟨v2, rfl, g, rfl, hg1, hg2, hg3, hg4⟩, hb2⟩
  have HI : Hid (BIn w2 (some ⟨g, 0, none⟩) (nowN data ws n)) := bin_row hg2 hg4
  have HN : Hid ((nowN data ws n).length = 128 ∧ ∀ c ∈ nowN data ws n, c < 256) := ⟨hg3, hg4⟩
  have HB : Hid (Below w.heap.size w w2) := below_bt (below_alloc w _) hb2
  clear hg1 hg2 hg3 hg4 hb2 HR
  go_wp2
  go_ret
  exact ⟨⟨g, rfl, HI.out, HN.out⟩, HB.out⟩
def SlotP (w : World) (count : Int) (xs : List Nat) (e : Ending) (w' : World) : Prop :=
  (∃ x ls lv, (IsDir ltS x xs ∧ errK count (allPcs x.files) = 0) ∧ ls.map Prod.fst = x.files ∧ e = .returned (.tuple #[.agg #[.int .i64 x.gen, lv], .nilIface]) ∧ FOwn w' w.heap.size lv ls ∧ Below w.heap.size w w')
  ∨ (∃ ev, (∀ x, IsDir ltS x xs → errK count (allPcs x.files) ≠ 0) ∧ e = .returned (.tuple #[.agg #[.int .i64 0, .slice none 0 0], ev]) ∧ Faults ev 8 ∧ Below w.heap.size w w')
theorem two_cells {w : World} {g : Nat} {a b : Value} {t : TypeId} {fr : Nat × Nat} (h : w.heap[g]? = some (.cells #[a, b] t fr)) : w.cell? ⟨g, 0, none⟩ = some a ∧ w.cell? ⟨g, 1, none⟩ = some b := ⟨Lib.cell_of_heap h 0, Lib.cell_of_heap h 1⟩
set_option maxRecDepth 8000 in
set_option maxHeartbeats 4000000 in
theorem slot_any (v : Value) (a : Nat) (count : Int) (data : List Nat) (ws : Puts) (w : World) (hL : Laid w) (hd : DiskIn w v count data ws) (ho : Okay count data ws) (ha : ((a + 8 : Nat) : Int) ≤ count) (hcn : count ≤ 4096) (xs : List Nat) (hxs : slotK data ws a 8 = xs) :
    Calls Tryz.prog 105 #[v, .int .i64 (a : Int)] w fun e w' => SlotP w count xs e w' := by
  obtain ⟨p, c, q, m, rfl, _⟩ := hd.parts
  have HD : Hid (DiskIn w (.agg #[.int .i64 count, .slice p data.length c, .slice q ws.length m]) count data ws) := hd
  have HO : Hid (Okay count data ws) := ho
  have HA : Hid (((a + 8 : Nat) : Int) ≤ count ∧ count ≤ 4096) := ⟨ha, hcn⟩
  have HLD : Hid (Laid w) := hL
  have HXS : Hid (slotK data ws a 8 = xs) := hxs
  have haI : (a : Int) ≤ 4096 := by omega
  have haI0 : (0 : Int) ≤ (a : Int) := by omega
  have hcI : count ≤ 4096 := hcn
  clear hd ho ha hL hxs hcn
  have HS0 : Hid (St w [(w.heap.size + 1, #[.int .i64 0, .slice none 0 0], 142), (w.heap.size, #[.int .i64 count, .slice p data.length c, .slice q ws.length m], 35)] ((w.alloc (.cells #[.int .i64 count, .slice p data.length c, .slice q ws.length m] 35)).alloc (.cells #[.int .i64 0, .slice none 0 0] 142)) (.slice none 0 0) []) := by
    have h1 := (St.start (w := w) (bx := []) (fun p hp => by simp at hp)).alloc #[.int .i64 count, .slice p data.length c, .slice q ws.length m] 35 (by decide)
    have h2 := h1.alloc #[.int .i64 0, .slice none 0 0] 142 (by decide)
    rw [show (w.alloc (.cells #[.int .i64 count, .slice p data.length c, .slice q ws.length m] 35)).heap.size = w.heap.size + 1 by simp] at h2
    exact h2
  go_enter Tryz.func105, Tryz.ntmps105
  go_wp2
  go_loopw [6, 12] (fun b i wr => ∃ k : Nat, k ≤ 8 ∧ i = .int .i64 (k : Int) ∧ (∀ c ∈ slotK data ws a k, c < 256) ∧ (slotK data ws a k).length = k * 128 ∧ ∃ bq bc, b = .slice bq (slotK data ws a k).length bc ∧ St w [(w.heap.size + 1, #[.int .i64 0, .slice none 0 0], 142), (w.heap.size, #[.int .i64 count, .slice p data.length c, .slice q ws.length m], 35)] wr (.slice bq (slotK data ws a k).length bc) (slotK data ws a k)) (fun _ i _ => 8 - (intOf i).toNat)
  case atStart => exact ⟨0, by omega, rfl, (fun c hc => by simp [slotK] at hc), rfl, none, 0, rfl, HS0.out⟩
  case round =>
    obtain ⟨k, hk, rfl, hby, hlen, bq, bc, rfl, hst⟩ := hrel
    obtain ⟨KL, hKL⟩ : ∃ KL, (slotK data ws a k).length = KL := ⟨_, rfl⟩
    rw [hKL] at hst ⊢
    have HKL : Hid ((slotK data ws a k).length = KL) := hKL
    have HBY : Hid ((∀ c ∈ slotK data ws a k, c < 256) ∧ (slotK data ws a k).length = k * 128) := ⟨hby, hlen⟩
    have HST : Hid (St w [(w.heap.size + 1, #[.int .i64 0, .slice none 0 0], 142), (w.heap.size, #[.int .i64 count, .slice p data.length c, .slice q ws.length m], 35)] wr (.slice bq KL bc) (slotK data ws a k)) := hst
    have c0 : wr.cell? ⟨w.heap.size, 0, none⟩ = some (.int .i64 count) := hst.cell (List.Mem.tail _ (List.Mem.head _)) 0
    have c1 : wr.cell? ⟨w.heap.size, 1, none⟩ = some (.slice p data.length c) := hst.cell (List.Mem.tail _ (List.Mem.head _)) 1
    have c2 : wr.cell? ⟨w.heap.size, 2, none⟩ = some (.slice q ws.length m) := hst.cell (List.Mem.tail _ (List.Mem.head _)) 2
    clear hby hlen hst HS0 hKL
    by_cases hk8 : k < 8
    · have hkI : (k : Int) < 8 := by omega
      have hkI0 : (0 : Int) ≤ (k : Int) := by omega
      have HK : Hid (k < 8) := hk8
      obtain ⟨j, hj⟩ : ∃ j : Nat, (a : Int) + (k : Int) = (j : Int) := ⟨a + k, by omega⟩
      have HJ : Hid (a + k = j) := by show _ = _; omega
      have hnw : Calls Tryz.prog 132 #[.agg #[.int .i64 count, .slice p data.length c, .slice q ws.length m], .int .i64 ((a : Int) + (k : Int))] wr fun e w' => (∃ g, e = .returned (.slice (some ⟨g, 0, none⟩) 128 128) ∧ BIn w' (some ⟨g, 0, none⟩) (nowN data ws j) ∧ (nowN data ws j).length = 128 ∧ ∀ c ∈ nowN data ws j, c < 256) ∧ Below wr.heap.size wr w' := by
        rw [hj]
        exact fnow_any _ j count data ws wr (HD.out.below HST.out.bel) HO.out (by have := HA.out.1; have := HJ.out; omega)
      clear hk8 hk hj
      go_wp2_with fail
      refine hnw.mono ?_
      rintro e w2 ⟨⟨g, rfl, hbi, hl, hby⟩, hb2⟩
      have HN : Hid ((nowN data ws j).length = 128 ∧ (∀ c ∈ nowN data ws j, c < 256)) := ⟨hl, hby⟩
      have HI2 : Hid (BIn w2 (some ⟨g, 0, none⟩) (nowN data ws j)) := hbi
      have S2 := HST.out.call hb2
      have hsz2 := S2.size
      have HS2 : Hid (St w [(w.heap.size + 1, #[.int .i64 0, .slice none 0 0], 142), (w.heap.size, #[.int .i64 count, .slice p data.length c, .slice q ws.length m], 35)] w2 (.slice bq KL bc) (slotK data ws a k)) := S2
      clear S2 hb2 hbi hl hby hnw HST c0 c1 c2
      go_wp2_with (at_builtin; refine wpList_append_bytes _ rfl _ _ rfl w.heap.size _ _ (nowN data ws j) (some ⟨g, 0, none⟩) _ 128 rfl rfl HN.out.1.symm HS2.out.own HI2.out (fun h => by cases h) (by have := HBY.out.2; have := HN.out.1; have := HK.out; omega) hsz2 ?_; intro v3 w3 ho3 hg3; have S3 := HS2.out.app ho3 hg3; have HS3 : Hid (St w [(w.heap.size + 1, #[.int .i64 0, .slice none 0 0], 142), (w.heap.size, #[.int .i64 count, .slice p data.length c, .slice q ws.length m], 35)] w3 v3 (slotK data ws a k ++ nowN data ws j)) := S3; clear S3 ho3 hg3)
      go_roundw
      case rel =>
        have hj := HJ.out
        subst hj
        have hs3 := HS3.out.eq (slotK_snoc data ws a k).symm
        obtain ⟨q3, c3, rfl, _, _, _⟩ := own_form hs3.own
        refine ⟨k + 1, HK.out, by go_num, ?_, ?_, q3, c3, rfl, hs3⟩
        · intro c hc
          rw [slotK_snoc] at hc
          rcases List.mem_append.1 hc with hc | hc
          · exact HBY.out.1 c hc
          · exact HN.out.2 c hc
        · rw [slotK_snoc, List.length_append, HBY.out.2, HN.out.1]; omega
      case measure => have := HK.out; simp [intOf]; omega
    · obtain rfl : k = 8 := by omega
      have HBX : Hid (slotK data ws a 8 = xs) := HXS.out
      have hst := HST.out
      rw [HXS.out] at hst
      have hKX : KL = xs.length := by rw [← HKL.out, HXS.out]
      subst hKX
      obtain ⟨bq2, bc2, hbe, hbc, hbm, _⟩ := own_form hst.own
      obtain ⟨e1, _, e3⟩ := Value.slice.inj hbe
      subst e1 e3
      clear hbe HKL
      have hlx : xs.length = 1024 := by rw [← HXS.out, HBY.out.2]
      have hby : ∀ c ∈ xs, c < 256 := by rw [← HXS.out]; exact HBY.out.1
      have hrd := read4_any bq bc xs wr (HLD.out.below hst.bel) (own_in hst.own hby) hbc hbm
      have HST8 : Hid (St w [(w.heap.size + 1, #[.int .i64 0, .slice none 0 0], 142), (w.heap.size, #[.int .i64 count, .slice p data.length c, .slice q ws.length m], 35)] wr (.slice bq xs.length bc) xs) := hst
      clear hst hbc hbm hlx hby HBX hk8 HST c0 c1 c2
      obtain ⟨L, hLn⟩ : ∃ L, xs.length = L := ⟨_, rfl⟩
      rw [hLn] at hrd ⊢
      clear hLn
      go_wp2_with fail
      refine hrd.mono ?_
      rintro e w4 hpost
      rcases hpost with ⟨x, ls, lv, hdir, hls, rfl, hfo, hb4⟩ | ⟨ev, hno, rfl, hfa, hb4⟩
      · obtain ⟨lq, lm, rfl, _, _, _⟩ := hfo.form
        have hm := hdir.1
        have hf := hm.fin
        have hfin := hfo.fin (fun y hy => (hf _ (by rw [← hls]; exact List.mem_map_of_mem hy)).2) (fun y hy => (hf _ (by rw [← hls]; exact List.mem_map_of_mem hy)).1)
        rw [hls] at hfin
        obtain ⟨_, hpl, hgood⟩ := errK_zero hm.pcs
        have bx := below_alloc w4 (.cells #[.int .i64 x.gen, .slice lq ls.length lm] 142)
        have hpc := pieces_any (.slice lq ls.length lm) x.files (w4.alloc (.cells #[.int .i64 x.gen, .slice lq ls.length lm] 142)) (hfin.below bx) (by omega)
        have hst4 := HST8.out.call (below_bt hb4 bx)
        have HBD : Hid ((w4.alloc (.cells #[.int .i64 x.gen, .slice lq ls.length lm] 142)).heap[w4.heap.size]? = some (.cells #[.int .i64 x.gen, .slice lq ls.length lm] 142 (0, 0))) := heap_alloc_new _ _
        have HRB : Hid ((w4.alloc (.cells #[.int .i64 x.gen, .slice lq ls.length lm] 142)).heap[w.heap.size + 1]? = some (.cells #[.int .i64 0, .slice none 0 0] 142 (0, 0))) := (hst4.box (w.heap.size + 1, #[.int .i64 0, .slice none 0 0], 142) (by simp)).1
        have HDB : Hid ((w4.alloc (.cells #[.int .i64 x.gen, .slice lq ls.length lm] 142)).heap[w.heap.size]? = some (.cells #[.int .i64 count, .slice p data.length c, .slice q ws.length m] 35 (0, 0))) := (hst4.box (w.heap.size, #[.int .i64 count, .slice p data.length c, .slice q ws.length m], 35) (by simp)).1
        have HBW : Hid (Below w.heap.size w (w4.alloc (.cells #[.int .i64 x.gen, .slice lq ls.length lm] 142))) := hst4.bel
        have HDR : Hid (IsDir ltS x xs ∧ ls.map Prod.fst = x.files) := ⟨hdir, hls⟩
        have HB8 : Hid (w.heap.size + 1 < wr.heap.size) := lt_heap (HST8.out.box (w.heap.size + 1, #[.int .i64 0, .slice none 0 0], 142) (by simp)).1
        obtain ⟨B8, hB8⟩ : ∃ B8, wr.heap.size = B8 := ⟨_, rfl⟩
        rw [hB8] at hfo HB8
        have HFO : Hid (FOwn (w4.alloc (.cells #[.int .i64 x.gen, .slice lq ls.length lm] 142)) B8 (.slice lq ls.length lm) ls) := hfo.below bx
        clear hB8
        have HGD : Hid (Rm.Good 4096 (allPcs x.files)) := hgood
        obtain ⟨l, hl⟩ : ∃ l, allPcs x.files = l := ⟨_, rfl⟩
        rw [hl] at hpc hpl HGD
        have HPL : Hid (allPcs x.files = l) := hl
        have hlI : (l.length : Int) ≤ 4096 := by omega
        clear hdir hls hfo hb4 hm hf hfin hpl hgood bx hst4 hl hrd HST8
        go_wp2_with fail
        refine hpc.mono ?_
        rintro e w5 ⟨r1, rfl, ho1, hb5⟩
        obtain ⟨rq, rc, rfl, _, _, _⟩ := ho1.form
        have HPI : Hid (PcsIn w5 rq l) := ho1.pcs
        have HBD5 : Hid (w5.heap[w4.heap.size]? = some (.cells #[.int .i64 x.gen, .slice lq ls.length lm] 142 (0, 0))) := (hb5.block _ (lt_heap HBD.out)).trans HBD.out
        have HRB5 : Hid (w5.heap[w.heap.size + 1]? = some (.cells #[.int .i64 0, .slice none 0 0] 142 (0, 0))) := (hb5.block _ (lt_heap HRB.out)).trans HRB.out
        have HDB5 : Hid (w5.heap[w.heap.size]? = some (.cells #[.int .i64 count, .slice p data.length c, .slice q ws.length m] 35 (0, 0))) := (hb5.block _ (lt_heap HDB.out)).trans HDB.out
        have HBW5 : Hid (Below w.heap.size w w5) := below_bt HBW.out hb5
        have HFO5 : Hid (FOwn w5 B8 (.slice lq ls.length lm) ls) := HFO.out.below hb5
        clear hb5 ho1 hpc HBD HRB HDB HBW HFO
        obtain ⟨gn, hgn⟩ : ∃ gn, x.gen = gn := ⟨_, rfl⟩
        have HGN : Hid (x.gen = gn) := hgn
        rw [hgn] at HBD5
        generalize w4.heap.size = gx at *
        go_wp2
        go_loopw [36] (fun i wr => ∃ k : Nat, k ≤ l.length ∧ i = .int .i64 (k : Int) ∧ (∀ j, j < k → (l.getD j (0, 0)).1 + (l.getD j (0, 0)).2 ≤ count) ∧ Below w5.heap.size w5 wr) (fun i _ => l.length - (intOf i).toNat)
        case atStart => exact ⟨0, by omega, rfl, fun j hj => by omega, Below.refl _ _⟩
        case round =>
          obtain ⟨k, hk, rfl, hfit, hbw⟩ := hrel
          have HFT : Hid (∀ j, j < k → (l.getD j (0, 0)).1 + (l.getD j (0, 0)).2 ≤ count) := hfit
          have HB : Hid (Below w5.heap.size w5 wr) := hbw
          clear hfit hbw
          by_cases hkl : k < l.length
          · have hkI : (k : Int) < (l.length : Int) := by omega
            have hpi := HPI.out.below HB.out
            obtain ⟨pb, po, rfl⟩ := hpi.addr (by omega)
            obtain ⟨y0, y1⟩ := hpi.at hkl
            have hmem : l.getD k (0, 0) ∈ l := by rw [List.getD_eq_getElem?_getD, List.getElem?_eq_getElem hkl]; exact List.getElem_mem _
            have hwn := HGD.out.wn _ hmem
            obtain ⟨pc, hpcE⟩ : ∃ pc, l.getD k (0, 0) = pc := ⟨_, rfl⟩
            rw [hpcE] at y0 y1 hwn hmem
            obtain ⟨p1, p2⟩ := pc
            have HMEM : Hid ((p1, p2) ∈ l ∧ l.getD k (0, 0) = (p1, p2)) := ⟨hmem, hpcE⟩
            have HKL : Hid (k < l.length) := hkl
            have hw1 : 0 ≤ p1 := by have := hwn; unfold Wn at this; omega
            have hw2 : p1 + p2 ≤ 4096 := by have := hwn; unfold Wn at this; omega
            have hw3 : 0 ≤ p2 := by have := hwn; unfold Wn at this; omega
            have bx := below_alloc wr (.cells #[.int .i64 p1, .int .i64 p2] 194)
            have c0 : (wr.alloc (.cells #[.int .i64 p1, .int .i64 p2] 194)).cell? ⟨w.heap.size, 0, none⟩ = some (.int .i64 count) := Lib.cell_of_heap ((bx.block _ (by have h1 := lt_heap HDB5.out; have h2 := HB.out.size; omega)).trans ((HB.out.block _ (lt_heap HDB5.out)).trans HDB5.out)) 0
            simp only at y0 y1
            clear hpi hmem hwn hpcE hkl hk
            by_cases hbig : count < p1 + p2
            · have hrb := (bx.block _ (by have h1 := lt_heap HRB5.out; have h2 := HB.out.size; omega)).trans ((HB.out.block _ (lt_heap HRB5.out)).trans HRB5.out)
              obtain ⟨d0, d1⟩ := two_cells hrb
              have f0 : (wr.alloc (.cells #[.int .i64 p1, .int .i64 p2] 194)).frozen? ⟨w.heap.size + 1, 0, none⟩ = false := by simp only [World.frozen?, hrb]; rfl
              have f1 : (wr.alloc (.cells #[.int .i64 p1, .int .i64 p2] 194)).frozen? ⟨w.heap.size + 1, 1, none⟩ = false := by simp only [World.frozen?, hrb]; rfl
              have HBIG : ∀ y, IsDir ltS y xs → errK count (allPcs y.files) = 0 → False := fun y hy he => by
                obtain rfl := isDir_only HDR.out.1 hy
                rw [HPL.out] at he
                have h1 := (errK_zero he).2.2.wn _ HMEM.out.1
                unfold Wn at h1
                simp only at h1
                omega
              clear hrb bx
              go_wp2
              (try simp only [Exit.inBlock, Exit.then])
              refine bodyPost_ret (v := .tuple #[.agg #[.int .i64 0, .slice none 0 0], .iface 124 (.agg #[.string ⟨#[97, 32, 112, 105, 101, 99, 101, 32, 98, 101, 121, 111, 110, 100, 32, 116, 104, 101, 32, 100, 105, 115, 107]⟩, .iface 25 (.int .i64 8)])]) ?_ rfl (.inr ⟨_, fun y hy he => HBIG y hy he, rfl, Faults.one _ _, set2_below (below_bt HBW5.out (below_bt HB.out (below_alloc _ _))) (by omega) _ _⟩)
              · rw [results_cell_tmp rfl]
                go_simp
            · have hbig2 : p1 + p2 ≤ count := by omega
              have HBG : Hid (p1 + p2 ≤ count) := hbig2
              clear bx hbig
              go_wp2
              go_roundw
              case rel => exact ⟨k + 1, HKL.out, by go_num, fun j hj => by
                rcases Nat.lt_or_ge j k with h | h
                · exact HFT.out j h
                · obtain rfl : j = k := by omega
                  rw [HMEM.out.2]; exact HBG.out, below_bt HB.out (below_alloc _ _)⟩
              case measure => have := HKL.out; simp [intOf]; omega
          · have hkI : (l.length : Int) ≤ (k : Int) := by omega
            have HKE : Hid (k = l.length) := by show _ = _; omega
            obtain ⟨x0, x1⟩ := two_cells ((HB.out.block _ (lt_heap HBD5.out)).trans HBD5.out)
            have hrb := (HB.out.block _ (lt_heap HRB5.out)).trans HRB5.out
            obtain ⟨d0, d1⟩ := two_cells hrb
            have f0 : wr.frozen? ⟨w.heap.size + 1, 0, none⟩ = false := by simp only [World.frozen?, hrb]; rfl
            have f1 : wr.frozen? ⟨w.heap.size + 1, 1, none⟩ = false := by simp only [World.frozen?, hrb]; rfl
            clear hrb hkl hk
            go_wp2
            (try simp only [Exit.inBlock, Exit.then])
            refine bodyPost_ret (v := .tuple #[.agg #[.int .i64 gn, .slice lq ls.length lm], .nilIface]) ?_ rfl (.inl ⟨x, ls, .slice lq ls.length lm, ⟨HDR.out.1, ?_⟩, HDR.out.2, by rw [HGN.out], ?_, set2_below (below_bt HBW5.out HB.out) (by omega) _ _⟩)
            · rw [results_cell_tmp rfl]
              go_simp
            · rw [HPL.out]
              refine (errK_fits (by rw [← HPL.out]; exact HDR.out.1.1.pcs) ⟨by have := HA.out.1; omega, HA.out.2⟩).2 (fun y hy => ?_)
              obtain ⟨j, hj, rfl⟩ := List.getElem_of_mem hy
              have := HFT.out j (by have := HKE.out; omega)
              rw [List.getD_eq_getElem?_getD, List.getElem?_eq_getElem hj] at this
              exact this
            · exact ((HFO5.out.below HB.out).set2 HB8.out _ _).mono (by have := HB8.out; omega)
      · have bx := below_alloc w4 (.cells #[.int .i64 0, .slice none 0 0] 142)
        have hst4 := HST8.out.call (below_bt hb4 bx)
        have hrb := (hst4.box (w.heap.size + 1, #[.int .i64 0, .slice none 0 0], 142) (by simp)).1
        obtain ⟨d0, d1⟩ := two_cells hrb
        have f0 : (w4.alloc (.cells #[.int .i64 0, .slice none 0 0] 142)).frozen? ⟨w.heap.size + 1, 0, none⟩ = false := by simp only [World.frozen?, hrb]; rfl
        have f1 : (w4.alloc (.cells #[.int .i64 0, .slice none 0 0] 142)).frozen? ⟨w.heap.size + 1, 1, none⟩ = false := by simp only [World.frozen?, hrb]; rfl
        have HB4 : Hid (Below w.heap.size w (w4.alloc (.cells #[.int .i64 0, .slice none 0 0] 142))) := hst4.bel
        have HNO : Hid (∀ x, ¬ IsDir ltS x xs) := hno
        have HFA : Hid (Faults ev 8) := hfa
        obtain ⟨T, vv, rfl⟩ : ∃ T vv, ev = .iface T vv := by cases hfa <;> exact ⟨_, _, rfl⟩
        clear hst4 hrb hno hfa hb4 bx HST8 hrd
        go_wp2
        (try simp only [Exit.inBlock, Exit.then])
        refine bodyPost_ret (v := .tuple #[.agg #[.int .i64 0, .slice none 0 0], .iface T vv]) ?_ rfl (.inr ⟨_, fun x hx => absurd hx (HNO.out x), rfl, HFA.out, set2_below HB4.out (by omega) _ _⟩)
        · rw [results_cell_tmp rfl]
          go_simp
theorem slot_some (v : Value) (a : Nat) (count : Int) (data : List Nat) (ws : Puts) (w : World) (hL : Laid w) (hd : DiskIn w v count data ws) (ho : Okay count data ws) (ha : ((a + 8 : Nat) : Int) ≤ count) (hcn : count ≤ 4096) (xs : List Nat) (hxs : slotK data ws a 8 = xs) (x : DirV) (hs : SlotR ltS count xs (some x)) :
    Calls Tryz.prog 105 #[v, .int .i64 (a : Int)] w fun e w' => ∃ ls lv, ls.map Prod.fst = x.files ∧ e = .returned (.tuple #[.agg #[.int .i64 x.gen, lv], .nilIface]) ∧ FOwn w' w.heap.size lv ls ∧ Below w.heap.size w w' :=
  (slot_any v a count data ws w hL hd ho ha hcn xs hxs).mono fun e w' h => by
    rcases h with ⟨y, ls, lv, h1, h2, h3, h4, h5⟩ | ⟨ev, h1, _⟩
    · obtain rfl := isDir_only h1.1 hs.1
      exact ⟨ls, lv, h2, h3, h4, h5⟩
    · exact absurd hs.2 (h1 x hs.1)
theorem slot_none (v : Value) (a : Nat) (count : Int) (data : List Nat) (ws : Puts) (w : World) (hL : Laid w) (hd : DiskIn w v count data ws) (ho : Okay count data ws) (ha : ((a + 8 : Nat) : Int) ≤ count) (hcn : count ≤ 4096) (xs : List Nat) (hxs : slotK data ws a 8 = xs) (hs : SlotR ltS count xs none) :
    Calls Tryz.prog 105 #[v, .int .i64 (a : Int)] w fun e w' => ∃ T vv, e = .returned (.tuple #[.agg #[.int .i64 0, .slice none 0 0], .iface T vv]) ∧ Below w.heap.size w w' :=
  (slot_any v a count data ws w hL hd ho ha hcn xs hxs).mono fun e w' h => by
    rcases h with ⟨y, ls, lv, h1, h2, h3, h4, h5⟩ | ⟨ev, h1, h2, h3, h4⟩
    · exact absurd h1.2 (hs y h1.1)
    · cases h3 <;> exact ⟨_, _, h2, h4⟩
theorem three_cells {w : World} {g : Nat} {a b c : Value} {t : TypeId} {fr : Nat × Nat} (h : w.heap[g]? = some (.cells #[a, b, c] t fr)) : w.cell? ⟨g, 0, none⟩ = some a ∧ w.cell? ⟨g, 1, none⟩ = some b ∧ w.cell? ⟨g, 2, none⟩ = some c := ⟨Lib.cell_of_heap h 0, Lib.cell_of_heap h 1, Lib.cell_of_heap h 2⟩
def MountIs (count : Int) (data : List Nat) (ws : Puts) (r : Option (DirV × Int)) (n : Int) : Prop :=
  (¬ Okay count data ws ∧ r = none ∧ n = 20) ∨ (Okay count data ws ∧ count < 96 ∧ r = none ∧ n = 40) ∨
  (Okay count data ws ∧ 96 ≤ count ∧ ∃ a b, SlotR ltS count (slotK data ws 0 8) a ∧ SlotR ltS count (slotK data ws 8 8) b ∧ r = mountR a b ∧ n = if r.isSome = true then 0 else 40)
def MountP (w : World) (r : Option (DirV × Int)) (n : Int) (e : Ending) (w' : World) : Prop :=
  match r with
  | some (x, at_) => ∃ ls lv, ls.map Prod.fst = x.files ∧ e = .returned (.tuple #[.agg #[.int .i64 x.gen, lv], .int .i64 at_, .nilIface]) ∧ FOwn w' w.heap.size lv ls ∧ Below w.heap.size w w'
  | none => ∃ ev, e = .returned (.tuple #[.agg #[.int .i64 0, .slice none 0 0], .int .i64 0, ev]) ∧ Faults ev n ∧ Below w.heap.size w w'
set_option maxRecDepth 8000 in
set_option maxHeartbeats 8000000 in
theorem mount_any (v : Value) (count : Int) (data : List Nat) (ws : Puts) (w : World) (hL : Laid w) (hd : DiskIn w v count data ws) (r : Option (DirV × Int)) (n : Int) (hm : MountIs count data ws r n) :
    Calls Tryz.prog 76 #[v] w fun e w' => MountP w r n e w' := by
  obtain ⟨p, c, q, m, rfl, _⟩ := hd.parts
  have HD : Hid (DiskIn w (.agg #[.int .i64 count, .slice p data.length c, .slice q ws.length m]) count data ws) := hd
  have HLD : Hid (Laid w) := hL
  have HB1 : Hid (Below w.heap.size w ((w.alloc (.cells #[.int .i64 count, .slice p data.length c, .slice q ws.length m] 35)).alloc (.cells #[.int .i64 0, .slice none 0 0] 142))) := below_bt (below_alloc _ _) (below_alloc _ _)
  have HDB1 : Hid (((w.alloc (.cells #[.int .i64 count, .slice p data.length c, .slice q ws.length m] 35)).alloc (.cells #[.int .i64 0, .slice none 0 0] 142)).heap[w.heap.size]? = some (.cells #[.int .i64 count, .slice p data.length c, .slice q ws.length m] 35 (0, 0))) := ((below_alloc (w.alloc (.cells #[.int .i64 count, .slice p data.length c, .slice q ws.length m] 35)) (.cells #[.int .i64 0, .slice none 0 0] 142)).block _ (by simp)).trans (heap_alloc_new w _)
  have HRB1 : Hid (((w.alloc (.cells #[.int .i64 count, .slice p data.length c, .slice q ws.length m] 35)).alloc (.cells #[.int .i64 0, .slice none 0 0] 142)).heap[w.heap.size + 1]? = some (.cells #[.int .i64 0, .slice none 0 0] 142 (0, 0))) := by
    have h := heap_alloc_new (w.alloc (.cells #[.int .i64 count, .slice p data.length c, .slice q ws.length m] 35)) (.cells #[.int .i64 0, .slice none 0 0] 142)
    rw [show (w.alloc (.cells #[.int .i64 count, .slice p data.length c, .slice q ws.length m] 35)).heap.size = w.heap.size + 1 by simp] at h
    exact h
  have HMI : Hid (MountIs count data ws r n) := hm
  clear hd hL hm
  go_enter Tryz.func76, Tryz.ntmps76
  by_cases ho : Okay count data ws
  · have HO : Hid (Okay count data ws) := ho
    have hck := check_ok _ count data ws _ (HD.out.below HB1.out) ho
    clear ho
    go_wp2_with fail
    refine hck.mono ?_
    rintro e w2 ⟨rfl, hb2⟩
    have HBw2 : Hid (Below w.heap.size w w2) := below_bt HB1.out hb2
    have HDBw2 : Hid (w2.heap[w.heap.size]? = some (.cells #[.int .i64 count, .slice p data.length c, .slice q ws.length m] 35 (0, 0))) := (hb2.block _ (lt_heap HDB1.out)).trans HDB1.out
    have HRBw2 : Hid (w2.heap[w.heap.size + 1]? = some (.cells #[.int .i64 0, .slice none 0 0] 142 (0, 0))) := (hb2.block _ (lt_heap HRB1.out)).trans HRB1.out
    clear hb2 hck HB1 HDB1 HRB1
    by_cases hc : count < 96
    · have HRN : Hid (r = none ∧ n = 40) := by
        rcases HMI.out with ⟨h1, _⟩ | ⟨_, _, h2, h3⟩ | ⟨_, h1, _⟩
        · exact absurd HO.out h1
        · exact ⟨h2, h3⟩
        · omega
      obtain ⟨hr0, hn0⟩ := HRN.out
      clear HRN HMI
      subst hr0 hn0
      obtain ⟨c0, c1, c2⟩ := three_cells HDBw2.out
      obtain ⟨d0, d1⟩ := two_cells HRBw2.out
      have f0 : w2.frozen? ⟨w.heap.size + 1, 0, none⟩ = false := by simp only [World.frozen?, HRBw2.out]; rfl
      have f1 : w2.frozen? ⟨w.heap.size + 1, 1, none⟩ = false := by simp only [World.frozen?, HRBw2.out]; rfl
      go_wp2
      (try simp only [Exit.inBlock, Exit.then])
      refine bodyPost_ret (v := .tuple #[.agg #[.int .i64 0, .slice none 0 0], .int .i64 0, .iface 124 (.agg #[.string ⟨#[99, 111, 117, 110, 116]⟩, .iface 25 (.int .i64 40)])]) ?_ rfl ?_
      · rw [results_cell_tmp2 rfl]
        go_simp
      · exact ⟨_, rfl, Faults.one _ _, set2_below HBw2.out (by omega) _ _⟩
    · have HC : Hid (96 ≤ count) := by show _ ≤ _; omega
      have hc2 : 96 ≤ count := HC.out
      have HC4 : Hid (count ≤ 4096) := HO.out.hi
      obtain ⟨a, b, hsa, hsb, hr, hn⟩ : ∃ a b, SlotR ltS count (slotK data ws 0 8) a ∧ SlotR ltS count (slotK data ws 8 8) b ∧ r = mountR a b ∧ n = if r.isSome = true then 0 else 40 := by
        rcases HMI.out with ⟨h1, _⟩ | ⟨_, h1, _⟩ | ⟨_, _, h1⟩
        · exact absurd HO.out h1
        · omega
        · exact h1
      clear hc HMI
      rcases a with _ | x
      · rcases b with _ | y
        · have HSAA : Hid (SlotR ltS count (slotK data ws 0 8) none) := hsa
          have HSAB : Hid (SlotR ltS count (slotK data ws 8 8) none) := hsb
          have hn2 : n = 40 := by rw [hn, hr]; rfl
          clear hn
          subst hr hn2
          clear hsa hsb
          have hsl := slot_none _ 0 count data ws w2 (HLD.out.below HBw2.out) (HD.out.below HBw2.out) HO.out (by have := HC.out; omega) HC4.out _ rfl HSAA.out
          obtain ⟨c0, c1, c2⟩ := three_cells HDBw2.out
          go_wp2_with fail
          refine hsl.mono ?_
          rintro e w30 ⟨TA, vvA, rfl, hbA⟩
          have bx := below_alloc w30 (.cells #[.int .i64 0, .slice none 0 0] 142)
          have HGA : Hid ((w30.alloc (.cells #[.int .i64 0, .slice none 0 0] 142)).heap[w30.heap.size]? = some (.cells #[.int .i64 0, .slice none 0 0] 142 (0, 0))) := heap_alloc_new _ _
          have hbb := below_bt hbA bx
          have HBw3 : Hid (Below w.heap.size w (w30.alloc (.cells #[.int .i64 0, .slice none 0 0] 142))) := below_bt HBw2.out hbb
          have HDBw3 : Hid ((w30.alloc (.cells #[.int .i64 0, .slice none 0 0] 142)).heap[w.heap.size]? = some (.cells #[.int .i64 count, .slice p data.length c, .slice q ws.length m] 35 (0, 0))) := (hbb.block _ (lt_heap HDBw2.out)).trans HDBw2.out
          have HRBw3 : Hid ((w30.alloc (.cells #[.int .i64 0, .slice none 0 0] 142)).heap[w.heap.size + 1]? = some (.cells #[.int .i64 0, .slice none 0 0] 142 (0, 0))) := (hbb.block _ (lt_heap HRBw2.out)).trans HRBw2.out
          clear hbb
          clear hbA bx hsl c0 c1 c2
          have hsl := slot_none _ 8 count data ws (w30.alloc (.cells #[.int .i64 0, .slice none 0 0] 142)) (HLD.out.below HBw3.out) (HD.out.below HBw3.out) HO.out (by have := HC.out; omega) HC4.out _ rfl HSAB.out
          obtain ⟨c0, c1, c2⟩ := three_cells HDBw3.out
          go_wp2_with fail
          refine hsl.mono ?_
          rintro e w40 ⟨TB, vvB, rfl, hbB⟩
          have bx := below_alloc w40 (.cells #[.int .i64 0, .slice none 0 0] 142)
          have HGB : Hid ((w40.alloc (.cells #[.int .i64 0, .slice none 0 0] 142)).heap[w40.heap.size]? = some (.cells #[.int .i64 0, .slice none 0 0] 142 (0, 0))) := heap_alloc_new _ _
          have hbb := below_bt hbB bx
          have HBw4 : Hid (Below w.heap.size w (w40.alloc (.cells #[.int .i64 0, .slice none 0 0] 142))) := below_bt HBw3.out hbb
          have HDBw4 : Hid ((w40.alloc (.cells #[.int .i64 0, .slice none 0 0] 142)).heap[w.heap.size]? = some (.cells #[.int .i64 count, .slice p data.length c, .slice q ws.length m] 35 (0, 0))) := (hbb.block _ (lt_heap HDBw3.out)).trans HDBw3.out
          have HRBw4 : Hid ((w40.alloc (.cells #[.int .i64 0, .slice none 0 0] 142)).heap[w.heap.size + 1]? = some (.cells #[.int .i64 0, .slice none 0 0] 142 (0, 0))) := (hbb.block _ (lt_heap HRBw3.out)).trans HRBw3.out
          have HGA2 : Hid ((w40.alloc (.cells #[.int .i64 0, .slice none 0 0] 142)).heap[w30.heap.size]? = some (.cells #[.int .i64 0, .slice none 0 0] 142 (0, 0))) := (hbb.block _ (lt_heap HGA.out)).trans HGA.out
          clear hbb
          clear hbB bx hsl c0 c1 c2
          obtain ⟨a0, a1⟩ := two_cells HGA2.out
          obtain ⟨b0, b1⟩ := two_cells HGB.out
          obtain ⟨d0, d1⟩ := two_cells HRBw4.out
          have f0 : (w40.alloc (.cells #[.int .i64 0, .slice none 0 0] 142)).frozen? ⟨w.heap.size + 1, 0, none⟩ = false := by simp only [World.frozen?, HRBw4.out]; rfl
          have f1 : (w40.alloc (.cells #[.int .i64 0, .slice none 0 0] 142)).frozen? ⟨w.heap.size + 1, 1, none⟩ = false := by simp only [World.frozen?, HRBw4.out]; rfl
          go_wp2
          (try simp only [Exit.inBlock, Exit.then])
          refine bodyPost_ret (v := .tuple #[.agg #[.int .i64 0, .slice none 0 0], .int .i64 0, .iface 124 (.agg #[.string ⟨#[98, 111, 116, 104, 32, 115, 108, 111, 116, 115]⟩, .iface 25 (.int .i64 40)])]) ?_ rfl ?_
          · rw [results_cell_tmp2 rfl]
            go_simp
          · exact ⟨_, rfl, Faults.one _ _, set2_below HBw4.out (by omega) _ _⟩
        · have HSAA : Hid (SlotR ltS count (slotK data ws 0 8) none) := hsa
          have HSAB : Hid (SlotR ltS count (slotK data ws 8 8) (some y)) := hsb
          clear hn
          subst hr
          clear hsa hsb
          have hsl := slot_none _ 0 count data ws w2 (HLD.out.below HBw2.out) (HD.out.below HBw2.out) HO.out (by have := HC.out; omega) HC4.out _ rfl HSAA.out
          obtain ⟨c0, c1, c2⟩ := three_cells HDBw2.out
          go_wp2_with fail
          refine hsl.mono ?_
          rintro e w30 ⟨TA, vvA, rfl, hbA⟩
          have bx := below_alloc w30 (.cells #[.int .i64 0, .slice none 0 0] 142)
          have HGA : Hid ((w30.alloc (.cells #[.int .i64 0, .slice none 0 0] 142)).heap[w30.heap.size]? = some (.cells #[.int .i64 0, .slice none 0 0] 142 (0, 0))) := heap_alloc_new _ _
          have hbb := below_bt hbA bx
          have HBw3 : Hid (Below w.heap.size w (w30.alloc (.cells #[.int .i64 0, .slice none 0 0] 142))) := below_bt HBw2.out hbb
          have HDBw3 : Hid ((w30.alloc (.cells #[.int .i64 0, .slice none 0 0] 142)).heap[w.heap.size]? = some (.cells #[.int .i64 count, .slice p data.length c, .slice q ws.length m] 35 (0, 0))) := (hbb.block _ (lt_heap HDBw2.out)).trans HDBw2.out
          have HRBw3 : Hid ((w30.alloc (.cells #[.int .i64 0, .slice none 0 0] 142)).heap[w.heap.size + 1]? = some (.cells #[.int .i64 0, .slice none 0 0] 142 (0, 0))) := (hbb.block _ (lt_heap HRBw2.out)).trans HRBw2.out
          clear hbb
          clear hbA bx hsl c0 c1 c2
          have hsl := slot_some _ 8 count data ws (w30.alloc (.cells #[.int .i64 0, .slice none 0 0] 142)) (HLD.out.below HBw3.out) (HD.out.below HBw3.out) HO.out (by have := HC.out; omega) HC4.out _ rfl y HSAB.out
          obtain ⟨c0, c1, c2⟩ := three_cells HDBw3.out
          go_wp2_with fail
          refine hsl.mono ?_
          rintro e w40 ⟨lsB, lvB, hlsB, rfl, hfoB, hbB⟩
          obtain ⟨lqB, lmB, rfl, _, _, _⟩ := hfoB.form
          have bx := below_alloc w40 (.cells #[.int .i64 y.gen, .slice lqB lsB.length lmB] 142)
          have HGB : Hid ((w40.alloc (.cells #[.int .i64 y.gen, .slice lqB lsB.length lmB] 142)).heap[w40.heap.size]? = some (.cells #[.int .i64 y.gen, .slice lqB lsB.length lmB] 142 (0, 0))) := heap_alloc_new _ _
          have HFB : Hid (FOwn (w40.alloc (.cells #[.int .i64 y.gen, .slice lqB lsB.length lmB] 142)) (w30.alloc (.cells #[.int .i64 0, .slice none 0 0] 142)).heap.size (.slice lqB lsB.length lmB) lsB) := hfoB.below bx
          have HLSB : Hid (lsB.map Prod.fst = y.files ∧ w.heap.size + 1 < (w30.alloc (.cells #[.int .i64 0, .slice none 0 0] 142)).heap.size) := ⟨hlsB, lt_heap HRBw3.out⟩
          have hbb := below_bt hbB bx
          have HBw4 : Hid (Below w.heap.size w (w40.alloc (.cells #[.int .i64 y.gen, .slice lqB lsB.length lmB] 142))) := below_bt HBw3.out hbb
          have HDBw4 : Hid ((w40.alloc (.cells #[.int .i64 y.gen, .slice lqB lsB.length lmB] 142)).heap[w.heap.size]? = some (.cells #[.int .i64 count, .slice p data.length c, .slice q ws.length m] 35 (0, 0))) := (hbb.block _ (lt_heap HDBw3.out)).trans HDBw3.out
          have HRBw4 : Hid ((w40.alloc (.cells #[.int .i64 y.gen, .slice lqB lsB.length lmB] 142)).heap[w.heap.size + 1]? = some (.cells #[.int .i64 0, .slice none 0 0] 142 (0, 0))) := (hbb.block _ (lt_heap HRBw3.out)).trans HRBw3.out
          have HGA2 : Hid ((w40.alloc (.cells #[.int .i64 y.gen, .slice lqB lsB.length lmB] 142)).heap[w30.heap.size]? = some (.cells #[.int .i64 0, .slice none 0 0] 142 (0, 0))) := (hbb.block _ (lt_heap HGA.out)).trans HGA.out
          clear hbb
          clear hlsB hfoB hbB bx hsl c0 c1 c2
          obtain ⟨a0, a1⟩ := two_cells HGA2.out
          obtain ⟨b0, b1⟩ := two_cells HGB.out
          obtain ⟨d0, d1⟩ := two_cells HRBw4.out
          have f0 : (w40.alloc (.cells #[.int .i64 y.gen, .slice lqB lsB.length lmB] 142)).frozen? ⟨w.heap.size + 1, 0, none⟩ = false := by simp only [World.frozen?, HRBw4.out]; rfl
          have f1 : (w40.alloc (.cells #[.int .i64 y.gen, .slice lqB lsB.length lmB] 142)).frozen? ⟨w.heap.size + 1, 1, none⟩ = false := by simp only [World.frozen?, HRBw4.out]; rfl
          have hge : 1 ≤ y.gen := HSAB.out.1.1.lo
          go_wp2
          (try simp only [Exit.inBlock, Exit.then])
          refine bodyPost_ret (v := .tuple #[.agg #[.int .i64 y.gen, .slice lqB lsB.length lmB], .int .i64 8, .nilIface]) ?_ rfl ?_
          · rw [results_cell_tmp2 rfl]
            go_simp
          · show MountP _ _ _ _ _
            rw [show mountR none (some y) = some (y, 8) from rfl]
            exact ⟨lsB, .slice lqB lsB.length lmB, HLSB.out.1, rfl, (HFB.out.set2 HLSB.out.2 _ _).mono (by have := HLSB.out.2; omega), set2_below HBw4.out (by omega) _ _⟩
      · rcases b with _ | y
        · have HSAA : Hid (SlotR ltS count (slotK data ws 0 8) (some x)) := hsa
          have HSAB : Hid (SlotR ltS count (slotK data ws 8 8) none) := hsb
          clear hn
          subst hr
          clear hsa hsb
          have hsl := slot_some _ 0 count data ws w2 (HLD.out.below HBw2.out) (HD.out.below HBw2.out) HO.out (by have := HC.out; omega) HC4.out _ rfl x HSAA.out
          obtain ⟨c0, c1, c2⟩ := three_cells HDBw2.out
          go_wp2_with fail
          refine hsl.mono ?_
          rintro e w30 ⟨lsA, lvA, hlsA, rfl, hfoA, hbA⟩
          obtain ⟨lqA, lmA, rfl, _, _, _⟩ := hfoA.form
          have bx := below_alloc w30 (.cells #[.int .i64 x.gen, .slice lqA lsA.length lmA] 142)
          have HGA : Hid ((w30.alloc (.cells #[.int .i64 x.gen, .slice lqA lsA.length lmA] 142)).heap[w30.heap.size]? = some (.cells #[.int .i64 x.gen, .slice lqA lsA.length lmA] 142 (0, 0))) := heap_alloc_new _ _
          have HFA : Hid (FOwn (w30.alloc (.cells #[.int .i64 x.gen, .slice lqA lsA.length lmA] 142)) w2.heap.size (.slice lqA lsA.length lmA) lsA) := hfoA.below bx
          have HLSA : Hid (lsA.map Prod.fst = x.files ∧ w.heap.size + 1 < w2.heap.size) := ⟨hlsA, lt_heap HRBw2.out⟩
          have hbb := below_bt hbA bx
          have HBw3 : Hid (Below w.heap.size w (w30.alloc (.cells #[.int .i64 x.gen, .slice lqA lsA.length lmA] 142))) := below_bt HBw2.out hbb
          have HDBw3 : Hid ((w30.alloc (.cells #[.int .i64 x.gen, .slice lqA lsA.length lmA] 142)).heap[w.heap.size]? = some (.cells #[.int .i64 count, .slice p data.length c, .slice q ws.length m] 35 (0, 0))) := (hbb.block _ (lt_heap HDBw2.out)).trans HDBw2.out
          have HRBw3 : Hid ((w30.alloc (.cells #[.int .i64 x.gen, .slice lqA lsA.length lmA] 142)).heap[w.heap.size + 1]? = some (.cells #[.int .i64 0, .slice none 0 0] 142 (0, 0))) := (hbb.block _ (lt_heap HRBw2.out)).trans HRBw2.out
          clear hbb
          clear hlsA hfoA hbA bx hsl c0 c1 c2
          have hsl := slot_none _ 8 count data ws (w30.alloc (.cells #[.int .i64 x.gen, .slice lqA lsA.length lmA] 142)) (HLD.out.below HBw3.out) (HD.out.below HBw3.out) HO.out (by have := HC.out; omega) HC4.out _ rfl HSAB.out
          obtain ⟨c0, c1, c2⟩ := three_cells HDBw3.out
          go_wp2_with fail
          refine hsl.mono ?_
          rintro e w40 ⟨TB, vvB, rfl, hbB⟩
          have bx := below_alloc w40 (.cells #[.int .i64 0, .slice none 0 0] 142)
          have HGB : Hid ((w40.alloc (.cells #[.int .i64 0, .slice none 0 0] 142)).heap[w40.heap.size]? = some (.cells #[.int .i64 0, .slice none 0 0] 142 (0, 0))) := heap_alloc_new _ _
          have hbb := below_bt hbB bx
          have HBw4 : Hid (Below w.heap.size w (w40.alloc (.cells #[.int .i64 0, .slice none 0 0] 142))) := below_bt HBw3.out hbb
          have HDBw4 : Hid ((w40.alloc (.cells #[.int .i64 0, .slice none 0 0] 142)).heap[w.heap.size]? = some (.cells #[.int .i64 count, .slice p data.length c, .slice q ws.length m] 35 (0, 0))) := (hbb.block _ (lt_heap HDBw3.out)).trans HDBw3.out
          have HRBw4 : Hid ((w40.alloc (.cells #[.int .i64 0, .slice none 0 0] 142)).heap[w.heap.size + 1]? = some (.cells #[.int .i64 0, .slice none 0 0] 142 (0, 0))) := (hbb.block _ (lt_heap HRBw3.out)).trans HRBw3.out
          have HGA2 : Hid ((w40.alloc (.cells #[.int .i64 0, .slice none 0 0] 142)).heap[w30.heap.size]? = some (.cells #[.int .i64 x.gen, .slice lqA lsA.length lmA] 142 (0, 0))) := (hbb.block _ (lt_heap HGA.out)).trans HGA.out
          have HFA2 : Hid (FOwn (w40.alloc (.cells #[.int .i64 0, .slice none 0 0] 142)) w2.heap.size (.slice lqA lsA.length lmA) lsA) := HFA.out.below hbb
          clear hbb
          clear hbB bx hsl c0 c1 c2
          obtain ⟨a0, a1⟩ := two_cells HGA2.out
          obtain ⟨b0, b1⟩ := two_cells HGB.out
          obtain ⟨d0, d1⟩ := two_cells HRBw4.out
          have f0 : (w40.alloc (.cells #[.int .i64 0, .slice none 0 0] 142)).frozen? ⟨w.heap.size + 1, 0, none⟩ = false := by simp only [World.frozen?, HRBw4.out]; rfl
          have f1 : (w40.alloc (.cells #[.int .i64 0, .slice none 0 0] 142)).frozen? ⟨w.heap.size + 1, 1, none⟩ = false := by simp only [World.frozen?, HRBw4.out]; rfl
          have hge : 1 ≤ x.gen := HSAA.out.1.1.lo
          go_wp2
          (try simp only [Exit.inBlock, Exit.then])
          refine bodyPost_ret (v := .tuple #[.agg #[.int .i64 x.gen, .slice lqA lsA.length lmA], .int .i64 0, .nilIface]) ?_ rfl ?_
          · rw [results_cell_tmp2 rfl]
            go_simp
          · show MountP _ _ _ _ _
            rw [show mountR (some x) none = some (x, 0) from rfl]
            exact ⟨lsA, .slice lqA lsA.length lmA, HLSA.out.1, rfl, (HFA2.out.set2 HLSA.out.2 _ _).mono (by have := HLSA.out.2; omega), set2_below HBw4.out (by omega) _ _⟩
        · have HSAA : Hid (SlotR ltS count (slotK data ws 0 8) (some x)) := hsa
          have HSAB : Hid (SlotR ltS count (slotK data ws 8 8) (some y)) := hsb
          clear hn
          subst hr
          clear hsa hsb
          have hsl := slot_some _ 0 count data ws w2 (HLD.out.below HBw2.out) (HD.out.below HBw2.out) HO.out (by have := HC.out; omega) HC4.out _ rfl x HSAA.out
          obtain ⟨c0, c1, c2⟩ := three_cells HDBw2.out
          go_wp2_with fail
          refine hsl.mono ?_
          rintro e w30 ⟨lsA, lvA, hlsA, rfl, hfoA, hbA⟩
          obtain ⟨lqA, lmA, rfl, _, _, _⟩ := hfoA.form
          have bx := below_alloc w30 (.cells #[.int .i64 x.gen, .slice lqA lsA.length lmA] 142)
          have HGA : Hid ((w30.alloc (.cells #[.int .i64 x.gen, .slice lqA lsA.length lmA] 142)).heap[w30.heap.size]? = some (.cells #[.int .i64 x.gen, .slice lqA lsA.length lmA] 142 (0, 0))) := heap_alloc_new _ _
          have HFA : Hid (FOwn (w30.alloc (.cells #[.int .i64 x.gen, .slice lqA lsA.length lmA] 142)) w2.heap.size (.slice lqA lsA.length lmA) lsA) := hfoA.below bx
          have HLSA : Hid (lsA.map Prod.fst = x.files ∧ w.heap.size + 1 < w2.heap.size) := ⟨hlsA, lt_heap HRBw2.out⟩
          have hbb := below_bt hbA bx
          have HBw3 : Hid (Below w.heap.size w (w30.alloc (.cells #[.int .i64 x.gen, .slice lqA lsA.length lmA] 142))) := below_bt HBw2.out hbb
          have HDBw3 : Hid ((w30.alloc (.cells #[.int .i64 x.gen, .slice lqA lsA.length lmA] 142)).heap[w.heap.size]? = some (.cells #[.int .i64 count, .slice p data.length c, .slice q ws.length m] 35 (0, 0))) := (hbb.block _ (lt_heap HDBw2.out)).trans HDBw2.out
          have HRBw3 : Hid ((w30.alloc (.cells #[.int .i64 x.gen, .slice lqA lsA.length lmA] 142)).heap[w.heap.size + 1]? = some (.cells #[.int .i64 0, .slice none 0 0] 142 (0, 0))) := (hbb.block _ (lt_heap HRBw2.out)).trans HRBw2.out
          clear hbb
          clear hlsA hfoA hbA bx hsl c0 c1 c2
          have hsl := slot_some _ 8 count data ws (w30.alloc (.cells #[.int .i64 x.gen, .slice lqA lsA.length lmA] 142)) (HLD.out.below HBw3.out) (HD.out.below HBw3.out) HO.out (by have := HC.out; omega) HC4.out _ rfl y HSAB.out
          obtain ⟨c0, c1, c2⟩ := three_cells HDBw3.out
          go_wp2_with fail
          refine hsl.mono ?_
          rintro e w40 ⟨lsB, lvB, hlsB, rfl, hfoB, hbB⟩
          obtain ⟨lqB, lmB, rfl, _, _, _⟩ := hfoB.form
          have bx := below_alloc w40 (.cells #[.int .i64 y.gen, .slice lqB lsB.length lmB] 142)
          have HGB : Hid ((w40.alloc (.cells #[.int .i64 y.gen, .slice lqB lsB.length lmB] 142)).heap[w40.heap.size]? = some (.cells #[.int .i64 y.gen, .slice lqB lsB.length lmB] 142 (0, 0))) := heap_alloc_new _ _
          have HFB : Hid (FOwn (w40.alloc (.cells #[.int .i64 y.gen, .slice lqB lsB.length lmB] 142)) (w30.alloc (.cells #[.int .i64 x.gen, .slice lqA lsA.length lmA] 142)).heap.size (.slice lqB lsB.length lmB) lsB) := hfoB.below bx
          have HLSB : Hid (lsB.map Prod.fst = y.files ∧ w.heap.size + 1 < (w30.alloc (.cells #[.int .i64 x.gen, .slice lqA lsA.length lmA] 142)).heap.size) := ⟨hlsB, lt_heap HRBw3.out⟩
          have hbb := below_bt hbB bx
          have HBw4 : Hid (Below w.heap.size w (w40.alloc (.cells #[.int .i64 y.gen, .slice lqB lsB.length lmB] 142))) := below_bt HBw3.out hbb
          have HDBw4 : Hid ((w40.alloc (.cells #[.int .i64 y.gen, .slice lqB lsB.length lmB] 142)).heap[w.heap.size]? = some (.cells #[.int .i64 count, .slice p data.length c, .slice q ws.length m] 35 (0, 0))) := (hbb.block _ (lt_heap HDBw3.out)).trans HDBw3.out
          have HRBw4 : Hid ((w40.alloc (.cells #[.int .i64 y.gen, .slice lqB lsB.length lmB] 142)).heap[w.heap.size + 1]? = some (.cells #[.int .i64 0, .slice none 0 0] 142 (0, 0))) := (hbb.block _ (lt_heap HRBw3.out)).trans HRBw3.out
          have HGA2 : Hid ((w40.alloc (.cells #[.int .i64 y.gen, .slice lqB lsB.length lmB] 142)).heap[w30.heap.size]? = some (.cells #[.int .i64 x.gen, .slice lqA lsA.length lmA] 142 (0, 0))) := (hbb.block _ (lt_heap HGA.out)).trans HGA.out
          have HFA2 : Hid (FOwn (w40.alloc (.cells #[.int .i64 y.gen, .slice lqB lsB.length lmB] 142)) w2.heap.size (.slice lqA lsA.length lmA) lsA) := HFA.out.below hbb
          clear hbb
          clear hlsB hfoB hbB bx hsl c0 c1 c2
          obtain ⟨a0, a1⟩ := two_cells HGA2.out
          obtain ⟨b0, b1⟩ := two_cells HGB.out
          obtain ⟨d0, d1⟩ := two_cells HRBw4.out
          have f0 : (w40.alloc (.cells #[.int .i64 y.gen, .slice lqB lsB.length lmB] 142)).frozen? ⟨w.heap.size + 1, 0, none⟩ = false := by simp only [World.frozen?, HRBw4.out]; rfl
          have f1 : (w40.alloc (.cells #[.int .i64 y.gen, .slice lqB lsB.length lmB] 142)).frozen? ⟨w.heap.size + 1, 1, none⟩ = false := by simp only [World.frozen?, HRBw4.out]; rfl
          by_cases hgt : x.gen < y.gen
          · have hmr : mountR (some x) (some y) = some (y, 8) := by show (if x.gen < y.gen then some (y, (8 : Int)) else some (x, 0)) = _; rw [if_pos hgt]
            go_wp2
            (try simp only [Exit.inBlock, Exit.then])
            refine bodyPost_ret (v := .tuple #[.agg #[.int .i64 y.gen, .slice lqB lsB.length lmB], .int .i64 8, .nilIface]) ?_ rfl ?_
            · rw [results_cell_tmp2 rfl]
              go_simp
            · show MountP _ _ _ _ _
              rw [hmr]
              exact ⟨lsB, .slice lqB lsB.length lmB, HLSB.out.1, rfl, (HFB.out.set2 HLSB.out.2 _ _).mono (by have := HLSB.out.2; omega), set2_below HBw4.out (by omega) _ _⟩
          · have hmr : mountR (some x) (some y) = some (x, 0) := by show (if x.gen < y.gen then some (y, (8 : Int)) else some (x, 0)) = _; rw [if_neg hgt]
            have hgt2 : y.gen ≤ x.gen := by omega
            go_wp2
            (try simp only [Exit.inBlock, Exit.then])
            refine bodyPost_ret (v := .tuple #[.agg #[.int .i64 x.gen, .slice lqA lsA.length lmA], .int .i64 0, .nilIface]) ?_ rfl ?_
            · rw [results_cell_tmp2 rfl]
              go_simp
            · show MountP _ _ _ _ _
              rw [hmr]
              exact ⟨lsA, .slice lqA lsA.length lmA, HLSA.out.1, rfl, (HFA2.out.set2 HLSA.out.2 _ _).mono (by have := HLSA.out.2; omega), set2_below HBw4.out (by omega) _ _⟩
  · have hck := check_bad _ count data ws _ (HD.out.below HB1.out) ho
    have HRN : Hid (r = none ∧ n = 20) := by
      rcases HMI.out with ⟨_, h2, h3⟩ | ⟨h1, _⟩ | ⟨h1, _⟩
      · exact ⟨h2, h3⟩
      · exact absurd h1 ho
      · exact absurd h1 ho
    obtain ⟨hr0, hn0⟩ := HRN.out
    clear HRN HMI
    subst hr0 hn0
    clear ho
    go_wp2_with fail
    refine hck.mono ?_
    rintro e w2 ⟨rfl, hb2⟩
    have HBw2 : Hid (Below w.heap.size w w2) := below_bt HB1.out hb2
    have HRBw2 : Hid (w2.heap[w.heap.size + 1]? = some (.cells #[.int .i64 0, .slice none 0 0] 142 (0, 0))) := (hb2.block _ (lt_heap HRB1.out)).trans HRB1.out
    obtain ⟨d0, d1⟩ := two_cells HRBw2.out
    have f0 : w2.frozen? ⟨w.heap.size + 1, 0, none⟩ = false := by simp only [World.frozen?, HRBw2.out]; rfl
    have f1 : w2.frozen? ⟨w.heap.size + 1, 1, none⟩ = false := by simp only [World.frozen?, HRBw2.out]; rfl
    clear hb2 hck
    go_wp2
    (try simp only [Exit.inBlock, Exit.then])
    refine bodyPost_ret (v := .tuple #[.agg #[.int .i64 0, .slice none 0 0], .int .i64 0, .iface 124 (.agg #[.string ⟨#[100, 105, 115, 107]⟩, .iface 25 (.int .i64 20)])]) ?_ rfl ?_
    · rw [results_cell_tmp2 rfl]
      go_simp
    · exact ⟨_, rfl, Faults.one _ _, set2_below HBw2.out (by omega) _ _⟩
end Go.Proofs.YtghcmllmbpoidaaGreatDoor
