/-
  After a loss of power while records are added, records are added, and read, as if nothing of what was torn stood there: wherever the power is lost again while they are added, the log has all that it had, and some first ones of the new ones: at any disk with a log on which no write waits, any records, place and choice (of larger disks, of more than 6 records each, and of choices of more than 10,000, the statement asks nothing).
-/
import Derived.Test.YtkjooekicbghdaaJ10
import Derived.Deep.RegionWith
import Derived.Test.YtkjooekicbghdaaRows
import Derived.WalkKit
import Derived.ProofKit
import Derived.OpenShut
import Derived.ShutString
import Derived.ChangeOld
import Derived.Below
namespace Go.Proofs.Ytkjooekicbghdaa
open Go.RowKit Go.WideShapes

/-- What added has done. -/
structure ASt (w0 wr : World) (count : Int) (data : List Nat) (E a0 p0 : Nat) (l0 : List (List Nat)) (t0 : List Nat) (rs : List (List Nat)) (vo : Value) : Prop where
  ex : ∃ D W a p t B F L p1 D1 c1 q1 z1 m1, wr.heap[w0.heap.size]? = some (.cells #[.int .i64 count, .slice p1 D1 c1, .slice q1 z1 m1] 25 (0, 0)) ∧ DiskIn wr (.agg #[.int .i64 count, .slice p1 D1 c1, .slice q1 z1 m1]) count D W ∧ AOwn wr w0.heap.size vo L ∧ L.map Prod.fst = B ∧ Adds E a0 p0 t0 rs B F a p t ∧ doAny count data [] B = .ok (D, W) ∧ HasLog count D W ∧ W.length ≤ a ∧ epochN (logN D W) = E ∧ Recs E 0 ((logN D W).drop 128) (l0 ++ rs) a p t
  below : Below w0.heap.size w0 wr
theorem getD_take_map {rs : List ByteArray} {k : Nat} (hk : k < rs.length) : (rs.take (k + 1)).map numsOf = (rs.take k).map numsOf ++ [numsOf (rs.getD k ByteArray.empty)] := by
  rw [List.take_succ_eq_append_getElem hk, List.map_append]
  simp [List.getD, List.getElem?_eq_getElem hk]
theorem next_st {w wr wk w9 w10 : World} {count : Int} {data D D2 : List Nat} {W W2 : Puts} {E a0 p0 a p S k : Nat} {l0 : List (List Nat)} {t0 t F : List Nat} {B : Acts} {rs : List ByteArray} {x : ByteArray} {L l7 : List ActC} {f : Bool} {p1 q1 p9 q9 q8 : Option Addr} {D1 c1 z1 m1 D9 c9 z9 m9 n8 m8 : Nat} {v10 : Value}
    (hst : L.map Prod.fst = B ∧ Adds E a0 p0 t0 ((rs.take k).map numsOf) B F a p t ∧ doAny count data [] B = .ok (D, W) ∧ Okay count data [] ∧ True ∧ HasLog count D W ∧ W.length ≤ a ∧ epochN (logN D W) = E ∧ Recs E 0 ((logN D W).drop 128) (l0 ++ (rs.take k).map numsOf) a p t)
    (h2 : doAny count D W (actsK ((17 + a : Nat) : Int) (frameN E S p (numsOf x)) (needsN (numsOf x).length) ++ if f then [(true, 0, [])] else []) = .ok (D2, W2) ∧ HasLog count D2 W2 ∧ W2.length ≤ W.length + needsN (numsOf x).length ∧ epochN (logN D2 W2) = E ∧ Recs E 0 ((logN D2 W2).drop 128) ((l0 ++ (rs.take k).map numsOf) ++ [numsOf x]) (a + needsN (numsOf x).length) S (t.drop (needsN (numsOf x).length * 128)))
    (h7 : l7.map Prod.fst = actsK ((17 + a : Nat) : Int) (frameN E S p (numsOf x)) (needsN (numsOf x).length) ++ if f then [(true, 0, [])] else [])
    (hal : AOwn wr w.heap.size (.slice q8 n8 m8) L) (hbk : Below wr.heap.size wr wk) (hb9 : Below wk.heap.size wk w9) (hf9 : DiskF wk.heap.size w9 (.agg #[.int .i64 count, .slice p9 D9 c9, .slice q9 z9 m9]) count D2 W2)
    (hxa : w9.heap[w.heap.size]? = some (.cells #[.int .i64 count, .slice p1 D1 c1, .slice q1 z1 m1] 25 (0, 0)))
    (ha10 : AOwn w10 w.heap.size v10 (L ++ l7))
    (hg10 : (((((w9.setCell ⟨w.heap.size, 0, none⟩ (.int .i64 count)).setCell ⟨w.heap.size, 1, none⟩ (.slice p9 D9 c9)).setCell ⟨w.heap.size, 2, none⟩ (.slice q9 z9 m9)).alloc (.cells #[.int .i64 count, .slice p9 D9 c9, .slice q9 z9 m9] 25)).grownBy w10 (Value.slice q8 n8 m8).ownBlock))
    (hx : rs.getD k ByteArray.empty = x ∧ k < rs.length) (hwr : Below w.heap.size w wr ∧ w.heap.size < wr.heap.size ∧ t.length = (63 - a) * 128) (hS : mostS E t (63 - a) + 1 = S) (hS2 : S < 4294967296) (hxl : (numsOf x).length ≤ 4096) (hft : a + needsN (numsOf x).length ≤ 63) :
    ASt w w10 count data E a0 p0 l0 t0 ((rs.take (k + 1)).map numsOf) v10 := by
  obtain ⟨s1, s2, s3, s4, _, s5, s6, s7, s8⟩ := hst
  obtain ⟨g1, g2, g3, g4, g5⟩ := h2
  have hlt := hal.row.lt
  have hs1 := hwr.1.size
  have hs2 := hbk.size
  have hs3 := hb9.size
  have hob : ∀ b, (Value.slice q8 n8 m8).ownBlock = some b → w.heap.size ≤ b ∧ b < wr.heap.size := hlt
  have hng : some w.heap.size ≠ (Value.slice q8 n8 m8).ownBlock := by
    intro e
    rcases hal.row.2 with ⟨hv, _⟩ | ⟨g', cap, cur, hv, _, h3, _⟩
    · rw [hv] at e; simp [Value.ownBlock] at e
    · rw [hv] at e
      simp only [Value.ownBlock, Option.some.injEq] at e
      subst e
      have h4 := (hb9.block w.heap.size (by omega)).trans ((hbk.block w.heap.size (by omega)).trans h3)
      rw [h4] at hxa
      simp at hxa
  have hbox : w10.heap[w.heap.size]? = some (.cells #[.int .i64 count, .slice p9 D9 c9, .slice q9 z9 m9] 25 (0, 0)) := by
    rw [hg10.block w.heap.size (by simp; omega) hng, heap_alloc_old _ _ (by simp; omega)]
    exact set3_same _ w.heap.size _ _ _ _ _ _ _ hxa
  have hdisk : DiskIn w10 (.agg #[.int .i64 count, .slice p9 D9 c9, .slice q9 z9 m9]) count D2 W2 := by
    refine hf9 w10 (fun b hb1 hb2 => ?_)
    rw [hg10.block b (by simp; omega) (fun e => by have := (hob b e.symm).2; omega), heap_alloc_old _ _ (by simp; omega), set3_other _ w.heap.size b _ _ _ (by omega)]
  have hbel : Below w.heap.size w w10 := by
    have h1 : Below w.heap.size w w9 := below_bt hwr.1 (below_bt hbk hb9)
    have h2 := set3_below h1 (Nat.le_refl _) (.int .i64 count) (.slice p9 D9 c9) (.slice q9 z9 m9)
    have h3 := h2.alloc (by simp; omega) (.cells #[.int .i64 count, .slice p9 D9 c9, .slice q9 z9 m9] 25)
    exact h3.grown hg10 (by simp; omega) (fun b hb => (hob b hb).1)
  refine ⟨⟨D2, W2, a + needsN (numsOf x).length, S, t.drop (needsN (numsOf x).length * 128), B ++ (actsK ((17 + a : Nat) : Int) (frameN E S p (numsOf x)) (needsN (numsOf x).length) ++ if f then [(true, 0, [])] else []), F ++ frameN E S p (numsOf x), L ++ l7, p9, D9, c9, q9, z9, m9, hbox, hdisk, ha10, by rw [List.map_append, s1, h7], ?_, ?_, g2, by omega, g4, ?_⟩, hbel⟩
  · rw [getD_take_map hx.2, hx.1]
    exact .snoc (numsOf x) S (63 - a) f s2 hwr.2.2 hS hS2 hxl (numsOf_lt x) (by omega)
  · rw [doAny_ok _ s4] at s3 ⊢
    rw [doN_app, s3]
    rw [doAny_ok _ s5.ok] at g1
    exact g1
  · rw [getD_take_map hx.2, hx.1, ← List.append_assoc]
    exact g5
/-- What added answers. -/
structure AddedOut (w w' : World) (count : Int) (data : List Nat) (E a0 p0 : Nat) (t0 : List Nat) (rs : List ByteArray) (e : Ending) : Prop where
  lies : e = .returned (.tuple #[.slice none 0 0, .bool false]) ∨ ∃ q n m L B F a p t, e = .returned (.tuple #[.slice q n m, .bool true]) ∧ AOwn w' w.heap.size (.slice q n m) L ∧ L.map Prod.fst = B ∧ Adds E a0 p0 t0 (rs.map numsOf) B F a p t ∧ ∃ D W, doAny count data [] B = .ok (D, W)
  below : Below w.heap.size w w'
set_option maxRecDepth 8000 in
set_option maxHeartbeats 4000000 in
theorem added_any (pd qd : Option Addr) (Dd cd zd' md : Nat) (count : Int) (data : List Nat) (qs : Option Addr) (ns cs : Nat) (rs : List ByteArray) (qf : Option Addr) (nf cf : Nat) (fl : List Bool) (w : World) (hd : DiskIn w (.agg #[.int .i64 count, .slice pd Dd cd, .slice qd zd' md]) count data []) (hlog : HasLog count data []) (E : Nat) (hE : epochN (logN data []) = E) (hE0 : E ≠ 0) (a0 p0 : Nat) (l0 : List (List Nat)) (t0 : List Nat) (hrec : Recs E 0 ((logN data []).drop 128) l0 a0 p0 t0)
    (hns : ns = rs.length) (hs : StrsIn w qs rs) (hnI : (ns : Int) ≤ 100) (hnf : nf = fl.length) (hfl : BoolsIn w qf fl) :
    Calls Try.prog 32 #[.agg #[.int .i64 count, .slice pd Dd cd, .slice qd zd' md], .slice qs ns cs, .slice qf nf cf] w fun e w' => AddedOut w w' count data E a0 p0 t0 rs e := by
  obtain ⟨j0, ji, jz0, jz1, jz2⟩ := info_parts info_act
  have HP : Hid (HasLog count data [] ∧ E ≠ 0 ∧ ns = rs.length ∧ StrsIn w qs rs ∧ nf = fl.length ∧ BoolsIn w qf fl) := ⟨hlog, hE0, hns, hs, hnf, hfl⟩
  have HST0 : Hid (ASt w (w.alloc (.cells #[.int .i64 count, .slice pd Dd cd, .slice qd zd' md] 25)) count data E a0 p0 l0 t0 ((rs.take 0).map numsOf) (.slice none 0 0)) :=
    ⟨⟨data, [], a0, p0, t0, [], [], [], pd, Dd, cd, qd, zd', md, heap_alloc_new _ _, hd.below (below_alloc _ _), aown_nil _ _, rfl, .nil, by rw [doAny_ok _ hlog.ok]; rfl, hlog, Nat.zero_le _, hE, by simpa using hrec⟩, below_alloc _ _⟩
  have hE32 : E < 4294967296 := hE ▸ epochN_lt _
  clear hd hlog hE hE0 hrec hns hs hnf hfl
  go_enter Try.func32, Try.ntmps32
  go_wp2
  go_loopw [8, 9] (fun vo i wr => ∃ k : Nat, k ≤ ns ∧ i = .int .i64 k ∧ ASt w wr count data E a0 p0 l0 t0 ((rs.take k).map numsOf) vo) (fun _ i _ => ns - (intOf i).toNat)
  case atStart => exact ⟨0, by omega, rfl, HST0.out⟩
  case round =>
    obtain ⟨k, hk, rfl, hst⟩ := hrel
    obtain ⟨⟨D, W, a, p, t, B, F, L, p1, D1, c1, q1, z1, m1, hbox, hdi, hal, hlb, hadds, hdo, hlg, hwa, hep, hrc⟩, hbel⟩ := hst
    obtain ⟨q8, m8, rfl, _, _⟩ := hal.form
    obtain ⟨n8, hn8⟩ : ∃ n, L.length = n := ⟨_, rfl⟩
    rw [hn8] at hal ⊢
    have HAL : Hid (AOwn wr w.heap.size (.slice q8 n8 m8) L) := hal
    have HBEL : Hid (Below w.heap.size w wr) := hbel
    by_cases hkn : k < ns
    · have hkI : (k : Int) < (ns : Int) := by omega
      obtain ⟨f1, f2, hpl⟩ := hrc.facts (n := 63) (by rw [List.length_drop, log_len hlg]) (by omega)
      have htl : t.length = (63 - a) * 128 := by rw [f2]; exact drop_len (by rw [List.length_drop, log_len hlg])
      have HST : Hid (L.map Prod.fst = B ∧ Adds E a0 p0 t0 ((rs.take k).map numsOf) B F a p t ∧ doAny count data [] B = .ok (D, W) ∧ Okay count data [] ∧ True ∧ HasLog count D W ∧ W.length ≤ a ∧ epochN (logN D W) = E ∧ Recs E 0 ((logN D W).drop 128) (l0 ++ (rs.take k).map numsOf) a p t) := ⟨hlb, hadds, hdo, HP.out.1.ok, trivial, hlg, hwa, hep, hrc⟩
      have HWL : Hid (W.length ≤ 100) := by show _ ≤ _; omega
      have HNL : Hid (n8 ≤ 1000 ∧ n8 = L.length) := by
        refine ⟨?_, hn8.symm⟩
        rw [← hn8, ← List.length_map (f := Prod.fst), hlb]
        exact adds_len hadds (by rw [List.length_map, List.length_take]; omega) f1
      have HWR : Hid (Below w.heap.size w wr ∧ w.heap.size < wr.heap.size ∧ t.length = (63 - a) * 128) := ⟨hbel, lt_heap hbox, htl⟩
      have HDI : Hid (∀ w', Below wr.heap.size wr w' → DiskIn w' (.agg #[.int .i64 count, .slice p1 D1 c1, .slice q1 z1 m1]) count D W) := fun w' h => hdi.below h
      have HXR : Hid (wr.heap[w.heap.size]? = some (.cells #[.int .i64 count, .slice p1 D1 c1, .slice q1 z1 m1] 25 (0, 0))) := hbox
      obtain ⟨ba, oa, rfl⟩ := HP.out.2.2.2.1.addr (by have := HP.out.2.2.1; omega)
      obtain ⟨x, hx⟩ : ∃ x, rs.getD k ByteArray.empty = x := ⟨_, rfl⟩
      have x0 := (HP.out.2.2.2.1.below hbel).at (i := k) (by have := HP.out.2.2.1; omega)
      rw [hx] at x0
      have HK : Hid (k < ns ∧ rs.getD k ByteArray.empty = x ∧ k < rs.length) := ⟨hkn, hx, by have := HP.out.2.2.1; omega⟩
      obtain ⟨S, hS⟩ : ∃ S, mostS E t (63 - a) + 1 = S := ⟨_, rfl⟩
      have HS : Hid (mostS E t (63 - a) + 1 = S) := hS
      have HADD : Hid (∀ w', Below wr.heap.size wr w' → Calls Try.prog 14 #[.agg #[.int .i64 count, .slice p1 D1 c1, .slice q1 z1 m1], .string x] w' fun e w2 => ∃ v' f, e = .returned (.tuple #[v', .int .i64 f]) ∧ AddOut E S a p x w' w2 v' f) := fun w' hb' => Add_u _ x count D W w' (hdi.below hb') hlg E hep HP.out.2.1 _ a p t S hrc hS
      obtain ⟨c0, c1', c2, _⟩ := box3 hbox
      clear hbox hdi hal hlb hadds hdo hlg hwa hep hrc hbel hx hkn f1 f2 hpl htl hS hn8 HST0
      go_upto_region 5 with fail
      go_region_with (go_at_call 14; refine (HADD.out _ ?_).mono ?_; (first | exact (Below.refl _ _).drew | exact Below.refl _ _); rintro e w6 ⟨v6, f6, rfl, hao⟩)
      all_goals
        rcases hao.lies with ⟨rfl, hT, hF, hS2, q6, m6, l6, rfl, ha6, hm6⟩ | ⟨rfl, rfl, hT⟩ | ⟨rfl, rfl, hT, _⟩
        · have hnx : (numsOf x).length = x.size := numsOf_len x
          have HXL : Hid ((numsOf x).length ≤ 4096) := by show _ ≤ _; rw [hnx]; exact hT
          have HFT : Hid (a + needsN (numsOf x).length ≤ 63) := by have := HST.out.2.2.2.2.2.2.2.2.count; have := (HST.out.2.2.2.2.2.2.2.2.facts (n := 63) (by rw [List.length_drop, log_len HST.out.2.2.2.2.2.1]) (by omega)).1; show _ ≤ _; rw [hnx]; omega
          have HS2 : Hid (S < 4294967296) := hS2
          have HB6 : Hid (Below wr.heap.size wr w6) := below_dw hao.below
          have HX6 : Hid (w6.heap[w.heap.size]? = some (.cells #[.int .i64 count, .slice p1 D1 c1, .slice q1 z1 m1] 25 (0, 0))) := (HB6.out.block _ (lt_heap HXR.out)).trans HXR.out
          rw [← hnx] at hm6
          have hk6 : l6.length = needsN (numsOf x).length := by have := congrArg List.length hm6; simpa [actsK] using this
          obtain ⟨n6, hn6⟩ : ∃ n, l6.length = n := ⟨_, rfl⟩
          rw [hn6] at ha6 ⊢
          have HA6 : Hid (AOwn w6 w.heap.size (.slice q6 n6 m6) l6) := ⟨own_mono ha6.row (by have := HBEL.out.size; simp at *; omega), fun y hy => (ha6.data y hy).mono (by have := HBEL.out.size; simp at *; omega)⟩
          have HA6b : Hid (AOwn w6 wr.heap.size (.slice q6 n6 m6) l6) := ha6
          have HM6 : Hid (l6.map Prod.fst = actsK ((17 + a : Nat) : Int) (frameN E S p (numsOf x)) (needsN (numsOf x).length) ∧ l6.length = n6 ∧ n6 ≤ 63) := ⟨hm6, hn6, by have := HFT.out; omega⟩
          clear hao hT hF hS2 ha6 hm6 hn6 hk6 hnx c0 c1' c2 x0
          by_cases hkf : k < nf
          · have hkfI : (k : Int) < (nf : Int) := by omega
            obtain ⟨bf, of', rfl⟩ := HP.out.2.2.2.2.2.addr (by have := HP.out.2.2.2.2.1; omega)
            have f0 := ((HP.out.2.2.2.2.2.below HBEL.out).below HB6.out).at (k := k) (by have := HP.out.2.2.2.2.1; omega)
            obtain ⟨fb, hfb⟩ : ∃ fb, fl.getD k false = fb := ⟨_, rfl⟩
            rw [hfb] at f0
            clear hfb
            cases fb
            · have HA7 : Hid (AOwn w6 w.heap.size (.slice q6 n6 m6) l6 ∧ l6.map Prod.fst = actsK ((17 + a : Nat) : Int) (frameN E S p (numsOf x)) (needsN (numsOf x).length) ++ if false then [(true, 0, [])] else []) := ⟨HA6.out, by rw [HM6.out.1]; simp⟩
              have HN7 : Hid (n6 ≤ 100 ∧ l6.length ≤ 100) := ⟨by have := HM6.out; omega, by have := HM6.out; omega⟩
              obtain ⟨k0, k1, k2, _⟩ := box3 HX6.out
              obtain ⟨D2, W2, hdo2, hlog2, hwl2, hep2, hrec2⟩ := step_added (r := numsOf x) false HST.out.2.2.2.2.2.1 HWL.out HST.out.2.2.2.2.2.2.2.1 HST.out.2.2.2.2.2.2.2.2 HS.out HS2.out HXL.out (numsOf_lt x) HFT.out
              have H2 : Hid (doAny count D W (actsK ((17 + a : Nat) : Int) (frameN E S p (numsOf x)) (needsN (numsOf x).length) ++ if false then [(true, 0, [])] else []) = .ok (D2, W2) ∧ HasLog count D2 W2 ∧ W2.length ≤ W.length + needsN (numsOf x).length ∧ epochN (logN D2 W2) = E ∧ Recs E 0 ((logN D2 W2).drop 128) ((l0 ++ (rs.take k).map numsOf) ++ [numsOf x]) (a + needsN (numsOf x).length) S (t.drop (needsN (numsOf x).length * 128))) := ⟨hdo2, hlog2, hwl2, hep2, hrec2⟩
              clear hdo2 hlog2 hwl2 hep2 hrec2
              have HDO : Hid (Calls Try.prog 15 #[.agg #[.int .i64 count, .slice p1 D1 c1, .slice q1 z1 m1], .slice q6 n6 m6] w6 fun e w2 => ∃ p9 D9 c9 q9 z9 m9, e = .returned (.tuple #[.agg #[.int .i64 count, .slice p9 D9 c9, .slice q9 z9 m9], .int .i64 0]) ∧ DiskF w6.heap.size w2 (.agg #[.int .i64 count, .slice p9 D9 c9, .slice q9 z9 m9]) count D2 W2 ∧ Below w6.heap.size w6 w2) := by
                obtain ⟨hn, hi, _, _⟩ := HA7.out.1.lies
                rw [HA7.out.2] at hi
                have hll : n6 = (actsK ((17 + a : Nat) : Int) (frameN E S p (numsOf x)) (needsN (numsOf x).length) ++ if false then [(true, 0, [])] else []).length := by rw [hn, ← HA7.out.2, List.length_map]
                refine (do_all _ count D W w6 (HDI.out _ HB6.out) q6 n6 m6 _ hll hi (by rw [← hll]; have := HN7.out; omega) _ H2.out.1).mono ?_
                rintro e w2 ⟨⟨v', he, hf⟩, hb⟩
                obtain ⟨p9, c9, q9, m9, rfl, _⟩ := hf.self.parts
                exact ⟨p9, _, c9, q9, _, m9, he, hf, hb⟩
              go_wp2_with fail
              refine HDO.out.mono ?_
              rintro e w9 ⟨p9, D9, c9, q9, z9, m9, rfl, hf9, hb9⟩
              have HF9 : Hid (DiskF w6.heap.size w9 (.agg #[.int .i64 count, .slice p9 D9 c9, .slice q9 z9 m9]) count D2 W2) := hf9
              have HB9 : Hid (Below w6.heap.size w6 w9) := hb9
              have HX9 : Hid (w9.heap[w.heap.size]? = some (.cells #[.int .i64 count, .slice p1 D1 c1, .slice q1 z1 m1] 25 (0, 0))) := (hb9.block _ (lt_heap HX6.out)).trans HX6.out
              clear hf9 hb9 k0 k1 k2
              obtain ⟨z0, z1', z2, y0, y1, y2⟩ := box3 HX9.out
              have hlt9 : w.heap.size < w9.heap.size := lt_heap HX9.out
              have HAO : Hid (AOwn ((((w9.setCell ⟨w.heap.size, 0, none⟩ (.int .i64 count)).setCell ⟨w.heap.size, 1, none⟩ (.slice p9 D9 c9)).setCell ⟨w.heap.size, 2, none⟩ (.slice q9 z9 m9)).alloc (.cells #[.int .i64 count, .slice p9 D9 c9, .slice q9 z9 m9] 25)) w.heap.size (.slice q8 n8 m8) L ∧ AOwn ((((w9.setCell ⟨w.heap.size, 0, none⟩ (.int .i64 count)).setCell ⟨w.heap.size, 1, none⟩ (.slice p9 D9 c9)).setCell ⟨w.heap.size, 2, none⟩ (.slice q9 z9 m9)).alloc (.cells #[.int .i64 count, .slice p9 D9 c9, .slice q9 z9 m9] 25)) w.heap.size (.slice q6 n6 m6) l6) :=
                ⟨((HAL.out.below (below_bt HB6.out HB9.out)).set3 HX9.out _ _ _).below (below_alloc _ _), ((HA7.out.1.below HB9.out).set3 HX9.out _ _ _).below (below_alloc _ _)⟩
              go_wp2_with (at_builtin; refine wpList_append_acts _ rfl _ _ rfl w.heap.size (.slice q8 n8 m8) q6 n6 m6 L l6 rfl rfl HAO.out.1 HAO.out.2 (by have := HN7.out; have := HNL.out; omega) (by simp; omega) ?_)
              intro v10 w10 ha10 hg10
              have HA10 : Hid (AOwn w10 w.heap.size v10 (L ++ l6)) := ha10
              have HG10 : Hid (((((w9.setCell ⟨w.heap.size, 0, none⟩ (.int .i64 count)).setCell ⟨w.heap.size, 1, none⟩ (.slice p9 D9 c9)).setCell ⟨w.heap.size, 2, none⟩ (.slice q9 z9 m9)).alloc (.cells #[.int .i64 count, .slice p9 D9 c9, .slice q9 z9 m9] 25)).grownBy w10 (Value.slice q8 n8 m8).ownBlock) := hg10
              clear ha10 hg10
              go_wp2
              go_roundw
              case rel =>
                exact ⟨k + 1, by have := HK.out; omega, by go_num, next_st HST.out H2.out HA7.out.2 HAL.out HB6.out HB9.out HF9.out HX9.out HA10.out HG10.out HK.out.2 HWR.out HS.out HS2.out HXL.out HFT.out⟩
              case measure => have := HK.out; simp [intOf]; omega
            · have HA8 : Hid (AOwn (w6.alloc (.cells #[.bool true, .int .i64 0, .slice none 0 0] 43)) wr.heap.size (.slice q6 n6 m6) l6) := HA6b.out.below (below_alloc _ _)
              have HB8 : Hid (Below wr.heap.size wr (w6.alloc (.cells #[.bool true, .int .i64 0, .slice none 0 0] 43))) := below_bt HB6.out (below_alloc _ _)
              have HCL : Hid (∀ j u, [Value.bool true, .int .i64 0, .slice none 0 0][j]? = some u → (w6.alloc (.cells #[.bool true, .int .i64 0, .slice none 0 0] 43)).cell? ((⟨w6.heap.size, 0, none⟩ : Addr).add j) = some u) := act_cells w6 _ _ _ _
              have HD8 : Hid (DataIs (w6.alloc (.cells #[.bool true, .int .i64 0, .slice none 0 0] 43)) wr.heap.size (.slice none 0 0) []) := .inl ⟨rfl, rfl⟩
              go_wp2_with (at_builtin; refine wpList_append_own _ rfl _ _ 32 rfl wr.heap.size 43 j0 _ 3 40 Try.underlying32 ji jz0 jz1 jz2 rfl (by omega) _ _ _ rfl HA8.out.row ⟨w6.heap.size, 0, none⟩ 1 1 [.bool true, .int .i64 0, .slice none 0 0] rfl rfl HCL.out (act_one _ _ _ _ _) (by have := HM6.out; unfold maxLen; omega) (by have := HM6.out; omega) HB8.out.size ?_)
              intro va ua hoa hga _
              have A5 := HA8.out.push HD8.out hoa hga
              have HB7 : Hid (Below wr.heap.size wr ua) := HB8.out.grown hga HB8.out.size (fun b hb => (HA8.out.row.lt b hb).1)
              obtain ⟨q7, m7, rfl, _, _⟩ := A5.form
              obtain ⟨n7, hn7⟩ : ∃ n, (l6 ++ [((true, 0, []), Value.slice none 0 0)]).length = n := ⟨_, rfl⟩
              rw [hn7] at A5 ⊢
              obtain ⟨ft, hft⟩ : ∃ ft : Bool, ft = true := ⟨true, rfl⟩
              have HA7 : Hid (AOwn ua w.heap.size (.slice q7 n7 m7) (l6 ++ [((true, 0, []), .slice none 0 0)]) ∧ (l6 ++ [((true, 0, []), Value.slice none 0 0)]).map Prod.fst = actsK ((17 + a : Nat) : Int) (frameN E S p (numsOf x)) (needsN (numsOf x).length) ++ if ft then [(true, 0, [])] else []) := ⟨⟨own_mono A5.row HBEL.out.size, fun y hy => (A5.data y hy).mono HBEL.out.size⟩, by rw [List.map_append, HM6.out.1, hft]; rfl⟩
              have HN7 : Hid (n7 ≤ 100 ∧ (l6 ++ [((true, 0, []), Value.slice none 0 0)]).length ≤ 100) := ⟨by have := HM6.out; rw [List.length_append] at hn7; simp at hn7; omega, by have := HM6.out; rw [List.length_append]; simp; omega⟩
              have HX7 : Hid (ua.heap[w.heap.size]? = some (.cells #[.int .i64 count, .slice p1 D1 c1, .slice q1 z1 m1] 25 (0, 0))) := (HB7.out.block _ (lt_heap HXR.out)).trans HXR.out
              clear hoa hga A5 hn7 HA8 HB8 HCL HD8 f0 hft
              obtain ⟨k0, k1, k2, _⟩ := box3 HX7.out
              obtain ⟨D2, W2, hdo2, hlog2, hwl2, hep2, hrec2⟩ := step_added (r := numsOf x) ft HST.out.2.2.2.2.2.1 HWL.out HST.out.2.2.2.2.2.2.2.1 HST.out.2.2.2.2.2.2.2.2 HS.out HS2.out HXL.out (numsOf_lt x) HFT.out
              have H2 : Hid (doAny count D W (actsK ((17 + a : Nat) : Int) (frameN E S p (numsOf x)) (needsN (numsOf x).length) ++ if ft then [(true, 0, [])] else []) = .ok (D2, W2) ∧ HasLog count D2 W2 ∧ W2.length ≤ W.length + needsN (numsOf x).length ∧ epochN (logN D2 W2) = E ∧ Recs E 0 ((logN D2 W2).drop 128) ((l0 ++ (rs.take k).map numsOf) ++ [numsOf x]) (a + needsN (numsOf x).length) S (t.drop (needsN (numsOf x).length * 128))) := ⟨hdo2, hlog2, hwl2, hep2, hrec2⟩
              clear hdo2 hlog2 hwl2 hep2 hrec2
              have HDO : Hid (Calls Try.prog 15 #[.agg #[.int .i64 count, .slice p1 D1 c1, .slice q1 z1 m1], .slice q7 n7 m7] ua fun e w2 => ∃ p9 D9 c9 q9 z9 m9, e = .returned (.tuple #[.agg #[.int .i64 count, .slice p9 D9 c9, .slice q9 z9 m9], .int .i64 0]) ∧ DiskF ua.heap.size w2 (.agg #[.int .i64 count, .slice p9 D9 c9, .slice q9 z9 m9]) count D2 W2 ∧ Below ua.heap.size ua w2) := by
                obtain ⟨hn, hi, _, _⟩ := HA7.out.1.lies
                rw [HA7.out.2] at hi
                have hll : n7 = (actsK ((17 + a : Nat) : Int) (frameN E S p (numsOf x)) (needsN (numsOf x).length) ++ if ft then [(true, 0, [])] else []).length := by rw [hn, ← HA7.out.2, List.length_map]
                refine (do_all _ count D W ua (HDI.out _ HB7.out) q7 n7 m7 _ hll hi (by rw [← hll]; have := HN7.out; omega) _ H2.out.1).mono ?_
                rintro e w2 ⟨⟨v', he, hf⟩, hb⟩
                obtain ⟨p9, c9, q9, m9, rfl, _⟩ := hf.self.parts
                exact ⟨p9, _, c9, q9, _, m9, he, hf, hb⟩
              go_wp2_with fail
              refine HDO.out.mono ?_
              rintro e w9 ⟨p9, D9, c9, q9, z9, m9, rfl, hf9, hb9⟩
              have HF9 : Hid (DiskF ua.heap.size w9 (.agg #[.int .i64 count, .slice p9 D9 c9, .slice q9 z9 m9]) count D2 W2) := hf9
              have HB9 : Hid (Below ua.heap.size ua w9) := hb9
              have HX9 : Hid (w9.heap[w.heap.size]? = some (.cells #[.int .i64 count, .slice p1 D1 c1, .slice q1 z1 m1] 25 (0, 0))) := (hb9.block _ (lt_heap HX7.out)).trans HX7.out
              clear hf9 hb9 k0 k1 k2
              obtain ⟨z0, z1', z2, y0, y1, y2⟩ := box3 HX9.out
              have hlt9 : w.heap.size < w9.heap.size := lt_heap HX9.out
              have HAO : Hid (AOwn ((((w9.setCell ⟨w.heap.size, 0, none⟩ (.int .i64 count)).setCell ⟨w.heap.size, 1, none⟩ (.slice p9 D9 c9)).setCell ⟨w.heap.size, 2, none⟩ (.slice q9 z9 m9)).alloc (.cells #[.int .i64 count, .slice p9 D9 c9, .slice q9 z9 m9] 25)) w.heap.size (.slice q8 n8 m8) L ∧ AOwn ((((w9.setCell ⟨w.heap.size, 0, none⟩ (.int .i64 count)).setCell ⟨w.heap.size, 1, none⟩ (.slice p9 D9 c9)).setCell ⟨w.heap.size, 2, none⟩ (.slice q9 z9 m9)).alloc (.cells #[.int .i64 count, .slice p9 D9 c9, .slice q9 z9 m9] 25)) w.heap.size (.slice q7 n7 m7) (l6 ++ [((true, 0, []), .slice none 0 0)])) :=
                ⟨((HAL.out.below (below_bt HB7.out HB9.out)).set3 HX9.out _ _ _).below (below_alloc _ _), ((HA7.out.1.below HB9.out).set3 HX9.out _ _ _).below (below_alloc _ _)⟩
              go_wp2_with (at_builtin; refine wpList_append_acts _ rfl _ _ rfl w.heap.size (.slice q8 n8 m8) q7 n7 m7 L (l6 ++ [((true, 0, []), .slice none 0 0)]) rfl rfl HAO.out.1 HAO.out.2 (by have := HN7.out; have := HNL.out; omega) (by simp; omega) ?_)
              intro v10 w10 ha10 hg10
              have HA10 : Hid (AOwn w10 w.heap.size v10 (L ++ (l6 ++ [((true, 0, []), .slice none 0 0)]))) := ha10
              have HG10 : Hid (((((w9.setCell ⟨w.heap.size, 0, none⟩ (.int .i64 count)).setCell ⟨w.heap.size, 1, none⟩ (.slice p9 D9 c9)).setCell ⟨w.heap.size, 2, none⟩ (.slice q9 z9 m9)).alloc (.cells #[.int .i64 count, .slice p9 D9 c9, .slice q9 z9 m9] 25)).grownBy w10 (Value.slice q8 n8 m8).ownBlock) := hg10
              clear ha10 hg10
              go_wp2
              go_roundw
              case rel =>
                exact ⟨k + 1, by have := HK.out; omega, by go_num, next_st HST.out H2.out HA7.out.2 HAL.out HB7.out HB9.out HF9.out HX9.out HA10.out HG10.out HK.out.2 HWR.out HS.out HS2.out HXL.out HFT.out⟩
              case measure => have := HK.out; simp [intOf]; omega
          · have hkfI : ¬ (k : Int) < (nf : Int) := by omega
            have HA7 : Hid (AOwn w6 w.heap.size (.slice q6 n6 m6) l6 ∧ l6.map Prod.fst = actsK ((17 + a : Nat) : Int) (frameN E S p (numsOf x)) (needsN (numsOf x).length) ++ if false then [(true, 0, [])] else []) := ⟨HA6.out, by rw [HM6.out.1]; simp⟩
            have HN7 : Hid (n6 ≤ 100 ∧ l6.length ≤ 100) := ⟨by have := HM6.out; omega, by have := HM6.out; omega⟩
            obtain ⟨k0, k1, k2, _⟩ := box3 HX6.out
            obtain ⟨D2, W2, hdo2, hlog2, hwl2, hep2, hrec2⟩ := step_added (r := numsOf x) false HST.out.2.2.2.2.2.1 HWL.out HST.out.2.2.2.2.2.2.2.1 HST.out.2.2.2.2.2.2.2.2 HS.out HS2.out HXL.out (numsOf_lt x) HFT.out
            have H2 : Hid (doAny count D W (actsK ((17 + a : Nat) : Int) (frameN E S p (numsOf x)) (needsN (numsOf x).length) ++ if false then [(true, 0, [])] else []) = .ok (D2, W2) ∧ HasLog count D2 W2 ∧ W2.length ≤ W.length + needsN (numsOf x).length ∧ epochN (logN D2 W2) = E ∧ Recs E 0 ((logN D2 W2).drop 128) ((l0 ++ (rs.take k).map numsOf) ++ [numsOf x]) (a + needsN (numsOf x).length) S (t.drop (needsN (numsOf x).length * 128))) := ⟨hdo2, hlog2, hwl2, hep2, hrec2⟩
            clear hdo2 hlog2 hwl2 hep2 hrec2
            have HDO : Hid (Calls Try.prog 15 #[.agg #[.int .i64 count, .slice p1 D1 c1, .slice q1 z1 m1], .slice q6 n6 m6] w6 fun e w2 => ∃ p9 D9 c9 q9 z9 m9, e = .returned (.tuple #[.agg #[.int .i64 count, .slice p9 D9 c9, .slice q9 z9 m9], .int .i64 0]) ∧ DiskF w6.heap.size w2 (.agg #[.int .i64 count, .slice p9 D9 c9, .slice q9 z9 m9]) count D2 W2 ∧ Below w6.heap.size w6 w2) := by
              obtain ⟨hn, hi, _, _⟩ := HA7.out.1.lies
              rw [HA7.out.2] at hi
              have hll : n6 = (actsK ((17 + a : Nat) : Int) (frameN E S p (numsOf x)) (needsN (numsOf x).length) ++ if false then [(true, 0, [])] else []).length := by rw [hn, ← HA7.out.2, List.length_map]
              refine (do_all _ count D W w6 (HDI.out _ HB6.out) q6 n6 m6 _ hll hi (by rw [← hll]; have := HN7.out; omega) _ H2.out.1).mono ?_
              rintro e w2 ⟨⟨v', he, hf⟩, hb⟩
              obtain ⟨p9, c9, q9, m9, rfl, _⟩ := hf.self.parts
              exact ⟨p9, _, c9, q9, _, m9, he, hf, hb⟩
            go_wp2_with fail
            refine HDO.out.mono ?_
            rintro e w9 ⟨p9, D9, c9, q9, z9, m9, rfl, hf9, hb9⟩
            have HF9 : Hid (DiskF w6.heap.size w9 (.agg #[.int .i64 count, .slice p9 D9 c9, .slice q9 z9 m9]) count D2 W2) := hf9
            have HB9 : Hid (Below w6.heap.size w6 w9) := hb9
            have HX9 : Hid (w9.heap[w.heap.size]? = some (.cells #[.int .i64 count, .slice p1 D1 c1, .slice q1 z1 m1] 25 (0, 0))) := (hb9.block _ (lt_heap HX6.out)).trans HX6.out
            clear hf9 hb9 k0 k1 k2
            obtain ⟨z0, z1', z2, y0, y1, y2⟩ := box3 HX9.out
            have hlt9 : w.heap.size < w9.heap.size := lt_heap HX9.out
            have HAO : Hid (AOwn ((((w9.setCell ⟨w.heap.size, 0, none⟩ (.int .i64 count)).setCell ⟨w.heap.size, 1, none⟩ (.slice p9 D9 c9)).setCell ⟨w.heap.size, 2, none⟩ (.slice q9 z9 m9)).alloc (.cells #[.int .i64 count, .slice p9 D9 c9, .slice q9 z9 m9] 25)) w.heap.size (.slice q8 n8 m8) L ∧ AOwn ((((w9.setCell ⟨w.heap.size, 0, none⟩ (.int .i64 count)).setCell ⟨w.heap.size, 1, none⟩ (.slice p9 D9 c9)).setCell ⟨w.heap.size, 2, none⟩ (.slice q9 z9 m9)).alloc (.cells #[.int .i64 count, .slice p9 D9 c9, .slice q9 z9 m9] 25)) w.heap.size (.slice q6 n6 m6) l6) :=
              ⟨((HAL.out.below (below_bt HB6.out HB9.out)).set3 HX9.out _ _ _).below (below_alloc _ _), ((HA7.out.1.below HB9.out).set3 HX9.out _ _ _).below (below_alloc _ _)⟩
            go_wp2_with (at_builtin; refine wpList_append_acts _ rfl _ _ rfl w.heap.size (.slice q8 n8 m8) q6 n6 m6 L l6 rfl rfl HAO.out.1 HAO.out.2 (by have := HN7.out; have := HNL.out; omega) (by simp; omega) ?_)
            intro v10 w10 ha10 hg10
            have HA10 : Hid (AOwn w10 w.heap.size v10 (L ++ l6)) := ha10
            have HG10 : Hid (((((w9.setCell ⟨w.heap.size, 0, none⟩ (.int .i64 count)).setCell ⟨w.heap.size, 1, none⟩ (.slice p9 D9 c9)).setCell ⟨w.heap.size, 2, none⟩ (.slice q9 z9 m9)).alloc (.cells #[.int .i64 count, .slice p9 D9 c9, .slice q9 z9 m9] 25)).grownBy w10 (Value.slice q8 n8 m8).ownBlock) := hg10
            clear ha10 hg10
            go_wp2
            go_roundw
            case rel =>
              exact ⟨k + 1, by have := HK.out; omega, by go_num, next_st HST.out H2.out HA7.out.2 HAL.out HB6.out HB9.out HF9.out HX9.out HA10.out HG10.out HK.out.2 HWR.out HS.out HS2.out HXL.out HFT.out⟩
            case measure => have := HK.out; simp [intOf]; omega
        · have HB6 : Hid (Below w.heap.size w w6) := below_bt HBEL.out (below_dw hao.below)
          clear hao hT c0 c1' c2 x0
          go_wp2
          go_ret2
          exact ⟨.inl rfl, HB6.out⟩
        · have HB6 : Hid (Below w.heap.size w w6) := below_bt HBEL.out (below_dw hao.below)
          clear hao hT c0 c1' c2 x0
          go_wp2
          go_ret2
          exact ⟨.inl rfl, HB6.out⟩
    · obtain rfl : k = ns := by omega
      have HE : Hid (L.map Prod.fst = B ∧ Adds E a0 p0 t0 (rs.map numsOf) B F a p t ∧ doAny count data [] B = .ok (D, W)) := ⟨hlb, by rw [List.take_of_length_le (by have := HP.out.2.2.1; omega)] at hadds; exact hadds, hdo⟩
      clear hbox hdi hal hlb hadds hdo hlg hwa hep hrc hbel hkn hn8 HST0
      go_wp2
      go_ret2
      exact ⟨.inr ⟨q8, n8, m8, L, B, F, a, p, t, rfl, HAL.out, HE.out.1, HE.out.2.1, D, W, HE.out.2.2⟩, HBEL.out⟩
end Go.Proofs.Ytkjooekicbghdaa
namespace Go.Proofs.Ytkjooekicbghdaa
open Go.RowKit Go.WideShapes

theorem StrsIn.take {w : World} {q : Option Addr} {l : List ByteArray} (h : StrsIn w q l) (k : Nat) : StrsIn w q (l.take k) := fun h0 => by
  rw [List.length_take] at h0
  obtain ⟨b, o, hq, hc⟩ := h (by omega)
  refine ⟨b, o, hq, fun i hi => ?_⟩
  rw [List.length_take] at hi
  rw [hc i (by omega), List.getD_eq_getElem?_getD, List.getD_eq_getElem?_getD, List.getElem?_take_of_lt (by omega)]
theorem map_nums (rs : List ByteArray) : (rs.map numsOf).map strOf = rs := by
  rw [List.map_map]
  conv => rhs; rw [← List.map_id rs]
  apply List.map_congr_left
  intro x _
  exact strOf_nums x
set_option maxRecDepth 8000 in
set_option maxHeartbeats 1000000 in
theorem added_err (pd qd : Option Addr) (Dd cd zd' md : Nat) (count : Int) (data : List Nat) (ws : Puts) (qs : Option Addr) (ns cs : Nat) (rs : List ByteArray) (vf : Value) (w : World) (hd : DiskIn w (.agg #[.int .i64 count, .slice pd Dd cd, .slice qd zd' md]) count data ws) (er : Int) (he : errL count data ws = er) (hne : er ≠ 0)
    (hns : ns = rs.length) (hs : StrsIn w qs rs) (hnI : (ns : Int) ≤ 100) :
    Calls Try.prog 32 #[.agg #[.int .i64 count, .slice pd Dd cd, .slice qd zd' md], .slice qs ns cs, vf] w fun e w' => ∃ q n c b, e = .returned (.tuple #[.slice q n c, .bool b]) ∧ Below w.heap.size w w' := by
  have HP : Hid (ns = rs.length ∧ StrsIn w qs rs ∧ DiskIn w (.agg #[.int .i64 count, .slice pd Dd cd, .slice qd zd' md]) count data ws ∧ errL count data ws = er ∧ er ≠ 0) := ⟨hns, hs, hd, he, hne⟩
  have g1 : (er != 0) = true := by simpa using hne
  clear hd he hne hns hs
  go_enter Try.func32, Try.ntmps32
  go_wp2
  go_loopw [8, 9] (fun vo i wr => vo = .slice none 0 0 ∧ i = .int .i64 0 ∧ wr = w.alloc (.cells #[.int .i64 count, .slice pd Dd cd, .slice qd zd' md] 25)) (fun _ _ _ => 0)
  case atStart => exact ⟨rfl, rfl, rfl⟩
  case round =>
    obtain ⟨rfl, rfl, hwr⟩ := hrel
    have HBW : Hid (Below w.heap.size w wr) := by rw [hwr]; exact below_alloc _ _
    have HX : Hid (wr.heap[w.heap.size]? = some (.cells #[.int .i64 count, .slice pd Dd cd, .slice qd zd' md] 25 (0, 0))) := by rw [hwr]; exact heap_alloc_new _ _
    clear hwr
    by_cases hk : 0 < ns
    · have hkI : (0 : Int) < (ns : Int) := by omega
      obtain ⟨ba, oa, rfl⟩ := HP.out.2.1.addr (by have := HP.out.1; omega)
      have x0 := (HP.out.2.1.below HBW.out).at (i := 0) (by have := HP.out.1; omega)
      obtain ⟨x, hx⟩ : ∃ x, rs.getD 0 ByteArray.empty = x := ⟨_, rfl⟩
      rw [hx, Nat.add_zero] at x0
      have HADD : Hid (∀ w', Below wr.heap.size wr w' → Calls Try.prog 14 #[.agg #[.int .i64 count, .slice pd Dd cd, .slice qd zd' md], .string x] w' fun e w2 => e = .returned (.tuple #[.slice none 0 0, .int .i64 er]) ∧ Below w'.heap.size w' w2) := fun w' hb' => Add_err _ x count data ws w' ((HP.out.2.2.1.below HBW.out).below hb') er HP.out.2.2.2.1 HP.out.2.2.2.2
      obtain ⟨c0, c1, c2, _⟩ := box3 HX.out
      clear hx hk
      go_upto_region 5 with fail
      go_region_with (go_at_call 14; refine (HADD.out _ ?_).mono ?_; (first | exact (Below.refl _ _).drew | exact Below.refl _ _); rintro e w6 ⟨rfl, hb6⟩)
      all_goals
        have HB6 : Hid (Below w.heap.size w w6) := below_bt HBW.out (below_dw hb6)
        clear hb6 c0 c1 c2 x0
        go_wp2
        go_ret2
        exact ⟨none, 0, 0, false, rfl, HB6.out⟩
    · obtain rfl : ns = 0 := by omega
      go_wp2
      go_ret2
      exact ⟨none, 0, 0, true, rfl, HBW.out⟩
set_option maxRecDepth 8000 in
set_option maxHeartbeats 4000000 in
theorem torn_main (v : Value) (count : Int) (data : List Nat) (qs : Option Addr) (ns cs : Nat) (rs : List ByteArray) (qf : Option Addr) (nf cf : Nat) (fl : List Bool) (z : Int) (ql : Option Addr) (nl ml : Nat) (keep : List Bool) (w : World) (hd : DiskIn w v count data []) (hlg : ¬ largeL count data []) (her : errL count data [] = 0) (hns : ns = rs.length) (hs : StrsIn w qs rs) (hcs : qs = none → cs = 0) (hnI : (ns : Int) ≤ 12) (hnf : nf = fl.length) (hfl : BoolsIn w qf fl) (hnl : nl = keep.length) (hl : BoolsIn w ql keep) (hk : (nl : Int) ≤ 10000) :
    Calls Try.prog 7 #[v, .slice qs ns cs, .slice qf nf cf, .int .i64 z, .slice ql nl ml] w fun e w' => e = .returned (.bool true) ∧ Below w.heap.size w w' := by
  obtain ⟨p, c, q, m, rfl, _⟩ := hd.parts
  obtain ⟨hhas, hE0⟩ := errL_ok her
  obtain ⟨E, hE⟩ : ∃ E, epochN (logN data []) = E := ⟨_, rfl⟩
  rw [hE] at hE0
  obtain ⟨z0, hz0⟩ : ∃ z, List.length (α := Int × List Nat) [] = z := ⟨_, rfl⟩
  have hz : z0 = 0 := hz0.symm
  subst hz
  have HG : Hid (HasLog count data [] ∧ epochN (logN data []) = E ∧ E ≠ 0) := ⟨hhas, hE, hE0⟩
  have HD : Hid (DiskIn w (.agg #[.int .i64 count, .slice p data.length c, .slice q 0 m]) count data []) := hd
  have HLG : Hid (decide (largeL count data []) = false) := decide_eq_false hlg
  have HL : Hid ((nl = keep.length ∧ BoolsIn w ql keep ∧ (nl : Int) ≤ 10000) ∧ (ns = rs.length ∧ StrsIn w qs rs ∧ (qs = none → cs = 0) ∧ (ns : Int) ≤ 12) ∧ nf = fl.length ∧ BoolsIn w qf fl) := ⟨⟨hnl, hl, hk⟩, ⟨hns, hs, hcs, hnI⟩, hnf, hfl⟩
  have g0 : decide ((10000 : Int) < (nl : Int)) = false := decide_eq_false (by omega)
  have hE32 : E < 4294967296 := hE ▸ epochN_lt _
  clear hd hlg her hhas hE0 hE hnl hl hk hns hs hcs hnf hfl
  go_enter Try.func7, Try.ntmps7
  go_wp2_with fail
  refine (alive_any _).mono ?_
  rintro e w1 ⟨rfl, hb1⟩
  have HX1 : Hid (w1.heap[w.heap.size]? = some (.cells #[.int .i64 count, .slice p data.length c, .slice q 0 m] 25 (0, 0))) := (hb1.block _ (by simp)).trans (heap_alloc_new w _)
  have HB1 : Hid (Below w.heap.size w w1) := below_bt (below_alloc w _) hb1
  clear hb1
  obtain ⟨c0, c1, c2, _⟩ := box3 HX1.out
  go_wp2_with fail
  refine (large5_any _ count data [] _ (HD.out.below HB1.out)).mono ?_
  rintro e w2 ⟨rfl, hb2⟩
  rw [HLG.out]
  have HX2 : Hid (w2.heap[w.heap.size]? = some (.cells #[.int .i64 count, .slice p data.length c, .slice q 0 m] 25 (0, 0))) := (hb2.block _ (lt_heap HX1.out)).trans HX1.out
  have HB2 : Hid (Below w.heap.size w w2) := below_bt HB1.out hb2
  clear hb2 c0 c1 c2
  obtain ⟨c0, c1, c2, _⟩ := box3 HX2.out
  go_wp2_with fail
  refine (Records_ok _ count data [] _ (HD.out.below HB2.out) HG.out.1 E HG.out.2.1 HG.out.2.2).mono ?_
  rintro e w3 ⟨rv, l, a, la, t, rfl, hrec, hown, hb3⟩
  obtain ⟨rq, rm, rfl, hrm1, hrm2, hrq⟩ := own_form hown
  have HRQ : Hid (rq = none → rm = 0) := hrq
  have HO3 : Hid (w3.ownsRow w2.heap.size 9 1 (.slice rq l.length rm) l.length (l.map fun r => .string (strOf r))) := hown
  have HREC : Hid (Recs E 0 ((logN data []).drop 128) l a la t) := hrec
  have HLL : Hid (l.length ≤ 63) := by
    have h1 := hrec.count
    have h2 := (hrec.facts (n := 63) (by rw [List.length_drop, log_len HG.out.1]) (by omega)).1
    show _ ≤ _
    omega
  obtain ⟨nw, hnw⟩ : ∃ n, l.length = n := ⟨_, rfl⟩
  rw [hnw] at HO3 HLL ⊢
  have HNW : Hid (l.length = nw) := hnw
  have hnwI : (nw : Int) ≤ 63 := by have := HLL.out; omega
  have HX3 : Hid (w3.heap[w.heap.size]? = some (.cells #[.int .i64 count, .slice p data.length c, .slice q 0 m] 25 (0, 0))) := (hb3.block _ (lt_heap HX2.out)).trans HX2.out
  have HB3 : Hid (Below w.heap.size w w3) := below_bt HB2.out hb3
  have HW3 : Hid (StrsIn w3 rq (l.map strOf)) := by have := HO3.out; rw [← HNW.out] at this; exact (own_strs this).2.1
  clear hb3 c0 c1 c2 hrec hown hrm1 hrm2 hrq hnw HO3
  obtain ⟨c0, c1, c2, _⟩ := box3 HX3.out
  go_wp2_with fail
  refine (added_any p q data.length c 0 m count data qs ns cs rs qf nf cf fl _ (HD.out.below HB3.out) HG.out.1 E HG.out.2.1 HG.out.2.2 a la l t HREC.out HL.out.2.1.1 (HL.out.2.1.2.1.below HB3.out) (by have := HL.out.2.1.2.2.2; omega) HL.out.2.2.1 (HL.out.2.2.2.below HB3.out)).mono ?_
  intro e w4 hao
  have HB34 : Hid (Below w3.heap.size w3 w4) := hao.below
  have HB4 : Hid (Below w.heap.size w w4) := below_bt HB3.out hao.below
  rcases hao.lies with rfl | ⟨q8, n8, m8, L, B, F, a', p', t', rfl, hal, hlb, hadds, D0, W0, hdo0⟩
  · clear hao c0 c1 c2
    go_wp2
    go_ret
    exact ⟨rfl, HB4.out⟩
  by_cases hz1 : z < 0
  · clear hao c0 c1 c2 hal hlb hadds hdo0
    go_wp2
    go_ret
    exact ⟨rfl, HB4.out⟩
  by_cases hz2 : (n8 : Int) < z
  · clear hao c0 c1 c2 hal hlb hadds hdo0
    go_wp2
    go_ret
    exact ⟨rfl, HB4.out⟩
  obtain ⟨n, rfl⟩ : ∃ n : Nat, z = n := ⟨z.toNat, by omega⟩
  have hnn : (n : Int) ≤ (n8 : Int) := by omega
  obtain ⟨hn8, hi8, hcap1, hcap2⟩ := hal.lies
  obtain ⟨D, W, hdo⟩ : ∃ D W, doAny count data [] (B.take n) = .ok (D, W) := by
    cases e : doAny count data [] (B.take n) with
    | ok s => exact ⟨s.1, s.2, rfl⟩
    | error cc => rw [doAny_fail e] at hdo0; cases hdo0
  have hok : Okay count D W := doAny_okay hdo
  obtain ⟨Y, hY⟩ : ∃ Y, crashN D W keep = Y := ⟨_, rfl⟩
  obtain ⟨hlogY, hepY, j, a2, la2, t2, hj, hsure, hrecY⟩ := torn_log n keep HG.out.1 HG.out.2.1 HREC.out hadds hdo hY
  have HAL : Hid (AOwn w4 w3.heap.size (.slice q8 n8 m8) L ∧ L.map Prod.fst = B ∧ n8 = B.length) := ⟨hal, hlb, by rw [← hlb, List.length_map]; exact hn8⟩
  have HC : Hid (doAny count data [] (B.take n) = .ok (D, W) ∧ Okay count D W ∧ crashN D W keep = Y) := ⟨hdo, hok, hY⟩
  have HY : Hid (HasLog count Y [] ∧ epochN (logN Y []) = E ∧ j ≤ rs.length ∧ sureN (B.take n) ≤ j ∧ Recs E 0 ((logN Y []).drop 128) (l ++ (rs.map numsOf).take j) a2 la2 t2) := ⟨hlogY, hepY, by rw [List.length_map] at hj; exact hj, hsure, hrecY⟩
  have HP8 : Hid (∀ y ∈ B.take n, y.1 = false → y.2.2.length = 128) := fun y hy hf => by
    obtain ⟨i, h1, _, h3⟩ := hadds.puts y (List.mem_of_mem_take hy) hf
    rw [h3]
    exact secAt_len (by rw [hadds.to.2.1]; exact Nat.mul_le_mul_right 128 h1)
  have hn8I : (n8 : Int) ≤ 1000 := by
    have hf := (hadds.to.1.news.len).2
    have h1 := hadds.to.2
    have h2 := HREC.out.facts (n := 63) (by rw [List.length_drop, log_len HG.out.1]) (by omega)
    have h3 : t.length = (63 - a) * 128 := by rw [h2.2.1]; exact drop_len (by rw [List.length_drop, log_len HG.out.1])
    have h4 := adds_len hadds (by rw [List.length_map]; have := HL.out.2.1.1; have := HL.out.2.1.2.2.2; omega) (by rw [h1.1, h3] at hf; have := Nat.le_of_mul_le_mul_right hf (by decide); omega)
    have h5 := HAL.out.2.2
    omega
  have hm8 : (n8 : Int) ≤ (m8 : Int) := by omega
  have hnm8 : (n : Int) ≤ (m8 : Int) := by omega
  have HX4 : Hid (w4.heap[w.heap.size]? = some (.cells #[.int .i64 count, .slice p data.length c, .slice q 0 m] 25 (0, 0))) := (hao.below.block _ (lt_heap HX3.out)).trans HX3.out
  clear hao c0 c1 c2 hal hlb hadds hdo0 hdo hok hY hlogY hepY hj hsure hrecY hn8 hi8 hcap1 hcap2 hz1 hz2
  obtain ⟨c0, c1, c2, _⟩ := box3 HX4.out
  have HDO : Hid (∀ w', Below w4.heap.size w4 w' → Calls Try.prog 15 #[.agg #[.int .i64 count, .slice p data.length c, .slice q 0 m], .slice q8 n m8] w' fun e w2 => ∃ p7 D7 c7 q7 z7 m7, e = .returned (.tuple #[.agg #[.int .i64 count, .slice p7 D7 c7, .slice q7 z7 m7], .int .i64 0]) ∧ DiskF w'.heap.size w2 (.agg #[.int .i64 count, .slice p7 D7 c7, .slice q7 z7 m7]) count D W ∧ Below w'.heap.size w' w2) := fun w' hb' => by
    obtain ⟨_, hi, _, _⟩ := (HAL.out.1.below hb').lies
    rw [HAL.out.2.1] at hi
    have hlen : n = (B.take n).length := by rw [List.length_take]; have := HAL.out.2.2; omega
    refine (do_all _ count data [] w' ((HD.out.below HB4.out).below hb') q8 n m8 (B.take n) hlen (acts_take hi n) (by rw [← hlen]; omega) _ HC.out.1).mono ?_
    rintro e w2 ⟨⟨v', he, hf⟩, hb⟩
    obtain ⟨p7, c7, q7, m7, rfl, _⟩ := hf.self.parts
    exact ⟨p7, _, c7, q7, _, m7, he, hf, hb⟩
  have hnew : ∀ o, (w4.alloc o).drew.heap[w4.heap.size]? = some o := fun o => heap_alloc_new w4 o
  have hlt4 : w.heap.size < w4.heap.size := lt_heap HX4.out
  go_upto_region 10 with fail
  go_cut [16, 17] from 57 (fun s16 s17 wx => ∃ B' p7 D7 c7 q7 z7 m7, s16 = .pointer (some ⟨B', 0, none⟩) ∧ s17 = .int .i64 0 ∧ Boxed w4 wx B' count p7 D7 c7 q7 z7 m7 D W)
  case first =>
    go_region_with (go_at_call 15; refine (HDO.out _ ?_).mono ?_; (first | exact (Below.refl _ _).drew | exact ((Below.refl _ _).drew).alloc (by simp) _); rintro e w5 ⟨p7, D7, c7, q7, z7, m7, rfl, hf5, hb5⟩; have hz := boxz3 w4 hb5; try (simp only [hnew] at hz; obtain ⟨HZ, z0, z1, z2, y0, y1, y2⟩ := hz rfl))
    all_goals
      go_wp2
      go_meet
      case rel =>
        first
          | exact ⟨_, p7, D7, c7, q7, z7, m7, rfl, rfl, boxed_behind hf5 (below_dw hb5)⟩
          | exact ⟨_, p7, D7, c7, q7, z7, m7, rfl, rfl, boxed_ahead hf5 (by simp) (((Below.refl w4.heap.size w4).alloc (Nat.le_refl _) _).drew.trans (hb5.mono (by simp))) HZ.out⟩
  case rest =>
    obtain ⟨B', p7, D7, c7, q7, z7, m7, rfl, rfl, hbx⟩ := hcut
    have HBX : Hid (Boxed w4 wc B' count p7 D7 c7 q7 z7 m7 D W) := hbx
    have HB7 : Hid (Below w.heap.size w wc) := below_bt HB4.out hbx.below
    have HB37 : Hid (Below w3.heap.size w3 wc) := below_bt HB34.out hbx.below
    clear hbx hnew c0 c1 c2 HDO hlt4
    obtain ⟨c0, c1, c2, _⟩ := box3 HBX.out.box
    have HCR : Hid (∀ w', Below wc.heap.size wc w' → Calls Try.prog 33 #[.agg #[.int .i64 count, .slice p7 D7 c7, .slice q7 z7 m7], .slice ql nl ml] w' fun e w2 => ∃ p8 D8 c8 q8 z8 m8, e = .returned (.tuple #[.agg #[.int .i64 count, .slice p8 D8 c8, .slice q8 z8 m8], .int .i64 0]) ∧ (∀ w3, Below w2.heap.size w2 w3 → DiskIn w3 (.agg #[.int .i64 count, .slice p8 D8 c8, .slice q8 z8 m8]) count Y []) ∧ Below w'.heap.size w' w2) := fun w' hb' => by
      have h1 := crash_ok _ count D W w' (HBX.out.disk.below hb') HC.out.2.1 ql ml keep ((HL.out.1.2.1.below HB7.out).below hb') (by have := HL.out.1.1; have := HL.out.1.2.2; omega)
      rw [← HL.out.1.1] at h1
      refine h1.mono ?_
      rintro e w2 ⟨⟨v', he, hf⟩, hb⟩
      have hin := hf.toIn (okay_crashed HC.out.2.1 keep)
      obtain ⟨p8, c8, q8, m8, rfl, _⟩ := hin.parts
      obtain ⟨D8, hD8⟩ : ∃ D8, (crashN D W keep).length = D8 := ⟨_, rfl⟩
      rw [hD8] at hin he
      rw [HC.out.2.2] at hin
      exact ⟨p8, D8, c8, q8, _, m8, he, fun w3 h3 => hin.below h3, hb⟩
    go_wp2_with fail
    refine (HCR.out _ (Below.refl _ _)).mono ?_
    rintro e w6 ⟨p9, D9, c9, q9, z9, m9, rfl, hin9, hb6⟩
    have HI9 : Hid (∀ w3, Below w6.heap.size w6 w3 → DiskIn w3 (.agg #[.int .i64 count, .slice p9 D9 c9, .slice q9 z9 m9]) count Y []) := hin9
    have HB6 : Hid (Below wc.heap.size wc w6) := hb6
    clear hin9 hb6 c0 c1 c2 HCR
    go_wp2_with fail
    refine (Records_ok _ count Y [] _ (HI9.out _ (below_alloc _ _)) HY.out.1 E HY.out.2.1 HG.out.2.2).mono ?_
    rintro e w8 ⟨rv8, l8, a8, la8, t8, rfl, hrec8, hown8, hb8⟩
    obtain ⟨rfl, _, _, _⟩ := HY.out.2.2.2.2.only hE32 (by omega) hrec8
    obtain ⟨rq8, rm8, rfl, _, _, _⟩ := own_form hown8
    have HT8 : Hid (StrsIn w8 rq8 ((l ++ (rs.map numsOf).take j).map strOf)) := (own_strs hown8).2.1
    obtain ⟨n9, hn9⟩ : ∃ n, (l ++ (rs.map numsOf).take j).length = n := ⟨_, rfl⟩
    rw [hn9]
    have HN9 : Hid ((l ++ (rs.map numsOf).take j).length = n9 ∧ n9 = nw + j) := ⟨hn9, by rw [← hn9, List.length_append, List.length_take, List.length_map, HNW.out]; have := HY.out.2.2.1; omega⟩
    have HB8 : Hid (Below wc.heap.size wc w8) := below_bt (below_bt HB6.out (below_alloc _ _)) hb8
    have HB38 : Hid (Below w3.heap.size w3 w8) := below_bt HB37.out HB8.out
    have HB48 : Hid (Below w4.heap.size w4 w8) := below_bt HBX.out.below HB8.out
    obtain ⟨sn, hsn⟩ : ∃ s, sureN (B.take n) = s := ⟨_, rfl⟩
    have HSU : Hid (Calls Try.prog 34 #[.slice q8 n m8] w8 fun e w' => e = .returned (.int .i64 (sn : Nat)) ∧ w' = w8) := by
      obtain ⟨_, hi, _, _⟩ := (HAL.out.1.below HB48.out).lies
      rw [HAL.out.2.1] at hi
      rw [← hsn]
      exact sure_any q8 n m8 (B.take n) w8 (by rw [List.length_take]; have := HAL.out.2.2; omega) (acts_take hi n) HP8.out (by omega)
    have hjI : (j : Int) ≤ (ns : Int) := by have := HY.out.2.2.1; have := HL.out.2.1.1; omega
    have hsj : (sn : Int) ≤ (j : Int) := by have := HY.out.2.2.2.1; omega
    have hn9I : (n9 : Int) = (nw : Int) + (j : Int) := by have := HN9.out.2; omega
    have t1 : decide ((n9 : Int) < (nw : Int) + (sn : Int)) = false := decide_eq_false (by omega)
    have t2 : decide ((nw : Int) + (ns : Int) < (n9 : Int)) = false := decide_eq_false (by omega)
    have hn9a : (n9 : Int) ≤ 100 := by omega
    have hsn2 : (sn : Int) ≤ 100 := by omega
    clear hrec8 hown8 hb8 hn9 hsn hn9I
    go_wp2_with fail
    refine HSU.out.mono ?_
    rintro e w9 ⟨rfl, rfl⟩
    have HLW : Hid (nw = (l.map strOf).length) := by show _ = _; rw [List.length_map, HNW.out]
    clear HSU
    go_wp2_with (at_builtin; refine wpList_append_strs _ rfl _ _ rfl w9.heap.size (.slice none 0 0) [] (l.map strOf) rq nw rm rfl rfl HLW.out (World.ownsRow_nil _ _ _ _) (HW3.out.below HB38.out) HRQ.out (by have := HNW.out; have := HLL.out; simp; omega) (Nat.le_refl _) ?_)
    intro x1 w10 hown10 hgr10
    have HO10 : Hid (w10.ownsRow w9.heap.size 9 1 x1 (l.map strOf).length (Ss (l.map strOf))) := by
      show World.ownsRow _ _ _ _ _ _ _
      simpa using hown10
    have HB10 : Hid (Below w9.heap.size w9 w10) := (Below.refl _ _).grown hgr10 (Nat.le_refl _) (fun k hk => by cases hk)
    clear hown10 hgr10
    go_wp2_with (at_builtin; refine wpList_append_strs _ rfl _ _ rfl w9.heap.size x1 (l.map strOf) rs qs ns cs rfl rfl HL.out.2.1.1 HO10.out ((((HL.out.2.1.2.1.below HB3.out).below HB38.out)).below HB10.out) HL.out.2.1.2.2.1 (by have := HLW.out; have := HLL.out; have := HL.out.2.1.1; have := HL.out.2.1.2.2.2; omega) HB10.out.size ?_)
    intro x2 w11 hown11 hgr11
    have HB11 : Hid (Below w9.heap.size w9 w11) := HB10.out.grown hgr11 HB10.out.size (fun k hk => (HO10.out.lt k hk).1)
    have hown11' : w11.ownsRow w9.heap.size 9 1 x2 (l.map strOf ++ rs).length (Ss (l.map strOf ++ rs)) := by
      simpa using hown11
    obtain ⟨qA, cA, rfl, hsA, hcA1, hcA2⟩ := own_strs2 hown11'
    obtain ⟨nA, hnA⟩ : ∃ n, (l.map strOf ++ rs).length = n := ⟨_, rfl⟩
    rw [hnA] at hcA1 ⊢
    have hnAc : (n9 : Int) ≤ (cA : Int) := by
      have h1 := HN9.out.2
      have h2 := HLW.out
      have h3 := HL.out.2.1.1
      rw [List.length_append] at hnA
      omega
    have HEQ : Hid ((l ++ (rs.map numsOf).take j).map strOf = (l.map strOf ++ rs).take n9) := by
      show _ = _
      rw [List.map_append, List.map_take, map_nums, HN9.out.2, HLW.out, List.take_length_add_append]
    have hTX := texts_any rq8 qA n9 n9 rm8 cA ((l ++ (rs.map numsOf).take j).map strOf) ((l.map strOf ++ rs).take n9) w11 (by rw [List.length_map]; exact HN9.out.1.symm) (by rw [← HEQ.out, List.length_map]; exact HN9.out.1.symm) (by unfold maxLen; omega) (HT8.out.below HB11.out) (hsA.take n9) true (decide_eq_true HEQ.out)
    clear hown11 hgr11 hown11' hsA hcA1 hcA2 hnA
    go_wp2_with fail
    refine hTX.mono ?_
    rintro e w12 ⟨rfl, hb12⟩
    have HB12 : Hid (Below w.heap.size w w12) := below_bt (below_bt HB7.out HB8.out) (below_bt HB11.out hb12)
    clear hb12 hTX
    go_wp2
    go_ret
    exact ⟨rfl, HB12.out⟩
end Go.Proofs.Ytkjooekicbghdaa
namespace Go.Proofs.Ytkjooekicbghdaa
open Go.RowKit Go.WideShapes

/-- The disk that Do answered, laid down in memory of the round's own. -/
structure Boxed2 (w0 w : World) (B : Nat) (count : Int) (p : Option Addr) (D c : Nat) (q : Option Addr) (z m : Nat) (data : List Nat) (ws : Puts) : Prop where
  boxed : Boxed w0 w B count p D c q z m data ws
  own : w0.heap.size ≤ B
set_option maxRecDepth 8000 in
set_option maxHeartbeats 4000000 in
theorem anew_main (v : Value) (count : Int) (data : List Nat) (qs : Option Addr) (ns cs : Nat) (rs : List ByteArray) (z : Int) (ql : Option Addr) (nl ml : Nat) (keep : List Bool) (qm : Option Addr) (nm cm : Nat) (ms : List ByteArray) (w : World) (hd : DiskIn w v count data []) (hlg : ¬ largeL count data []) (her : errL count data [] = 0) (hns : ns = rs.length) (hs : StrsIn w qs rs) (hcs : qs = none → cs = 0) (hnI : (ns : Int) ≤ 6) (hnm : nm = ms.length) (hms : StrsIn w qm ms) (hcm : qm = none → cm = 0) (hnmI : (nm : Int) ≤ 6) (hnl : nl = keep.length) (hl : BoolsIn w ql keep) (hk : (nl : Int) ≤ 10000) :
    Calls Try.prog 8 #[v, .slice qs ns cs, .int .i64 z, .slice ql nl ml, .slice qm nm cm] w fun e w' => e = .returned (.bool true) ∧ Below w.heap.size w w' := by
  obtain ⟨p, c, q, m, rfl, _⟩ := hd.parts
  obtain ⟨hhas, hE0⟩ := errL_ok her
  obtain ⟨E, hE⟩ : ∃ E, epochN (logN data []) = E := ⟨_, rfl⟩
  rw [hE] at hE0
  obtain ⟨z0, hz0⟩ : ∃ z, List.length (α := Int × List Nat) [] = z := ⟨_, rfl⟩
  have hz : z0 = 0 := hz0.symm
  subst hz
  have HG : Hid (HasLog count data [] ∧ epochN (logN data []) = E ∧ E ≠ 0) := ⟨hhas, hE, hE0⟩
  have HD : Hid (DiskIn w (.agg #[.int .i64 count, .slice p data.length c, .slice q 0 m]) count data []) := hd
  have HLG : Hid (decide (largeL count data []) = false) := decide_eq_false hlg
  have HL : Hid ((nl = keep.length ∧ BoolsIn w ql keep ∧ (nl : Int) ≤ 10000) ∧ (ns = rs.length ∧ StrsIn w qs rs ∧ (qs = none → cs = 0) ∧ (ns : Int) ≤ 6) ∧ nm = ms.length ∧ StrsIn w qm ms ∧ (qm = none → cm = 0) ∧ (nm : Int) ≤ 6) := ⟨⟨hnl, hl, hk⟩, ⟨hns, hs, hcs, hnI⟩, hnm, hms, hcm, hnmI⟩
  have g0 : decide ((10000 : Int) < (nl : Int)) = false := decide_eq_false (by omega)
  have hE32 : E < 4294967296 := hE ▸ epochN_lt _
  clear hd hlg her hhas hE0 hE hnl hl hk hns hs hcs hnm hms hcm
  go_enter Try.func8, Try.ntmps8
  go_wp2_with fail
  refine (alive_any _).mono ?_
  rintro e w1 ⟨rfl, hb1⟩
  have HX1 : Hid (w1.heap[w.heap.size]? = some (.cells #[.int .i64 count, .slice p data.length c, .slice q 0 m] 25 (0, 0))) := (hb1.block _ (by simp)).trans (heap_alloc_new w _)
  have HB1 : Hid (Below w.heap.size w w1) := below_bt (below_alloc w _) hb1
  clear hb1
  obtain ⟨c0, c1, c2, _⟩ := box3 HX1.out
  go_wp2_with fail
  refine (large5_any _ count data [] _ (HD.out.below HB1.out)).mono ?_
  rintro e w2 ⟨rfl, hb2⟩
  rw [HLG.out]
  have HX2 : Hid (w2.heap[w.heap.size]? = some (.cells #[.int .i64 count, .slice p data.length c, .slice q 0 m] 25 (0, 0))) := (hb2.block _ (lt_heap HX1.out)).trans HX1.out
  have HB2 : Hid (Below w.heap.size w w2) := below_bt HB1.out hb2
  clear hb2 c0 c1 c2
  obtain ⟨c0, c1, c2, _⟩ := box3 HX2.out
  go_wp2_with fail
  refine (Records_ok _ count data [] _ (HD.out.below HB2.out) HG.out.1 E HG.out.2.1 HG.out.2.2).mono ?_
  rintro e w3 ⟨rv, l, a, la, t, rfl, hrec, hown, hb3⟩
  obtain ⟨rq, rm, rfl, hrm1, hrm2, hrq⟩ := own_form hown
  have HRQ : Hid (rq = none → rm = 0) := hrq
  have HO3 : Hid (w3.ownsRow w2.heap.size 9 1 (.slice rq l.length rm) l.length (l.map fun r => .string (strOf r))) := hown
  have HREC : Hid (Recs E 0 ((logN data []).drop 128) l a la t) := hrec
  have HLL : Hid (l.length ≤ 63) := by
    have h1 := hrec.count
    have h2 := (hrec.facts (n := 63) (by rw [List.length_drop, log_len HG.out.1]) (by omega)).1
    show _ ≤ _
    omega
  obtain ⟨nw, hnw⟩ : ∃ n, l.length = n := ⟨_, rfl⟩
  rw [hnw] at HO3 HLL ⊢
  have HNW : Hid (l.length = nw) := hnw
  have hnwI : (nw : Int) ≤ 63 := by have := HLL.out; omega
  have HX3 : Hid (w3.heap[w.heap.size]? = some (.cells #[.int .i64 count, .slice p data.length c, .slice q 0 m] 25 (0, 0))) := (hb3.block _ (lt_heap HX2.out)).trans HX2.out
  have HB3 : Hid (Below w.heap.size w w3) := below_bt HB2.out hb3
  have HW3 : Hid (StrsIn w3 rq (l.map strOf)) := by have := HO3.out; rw [← HNW.out] at this; exact (own_strs this).2.1
  clear hb3 c0 c1 c2 hrec hown hrm1 hrm2 hrq hnw HO3
  obtain ⟨c0, c1, c2, _⟩ := box3 HX3.out
  go_wp2_with fail
  refine (added_any p q data.length c 0 m count data qs ns cs rs none 0 0 [] _ (HD.out.below HB3.out) HG.out.1 E HG.out.2.1 HG.out.2.2 a la l t HREC.out HL.out.2.1.1 (HL.out.2.1.2.1.below HB3.out) (by have := HL.out.2.1.2.2.2; omega) rfl (fun h => absurd h (Nat.lt_irrefl 0))).mono ?_
  intro e w4 hao
  have HB34 : Hid (Below w3.heap.size w3 w4) := hao.below
  have HB4 : Hid (Below w.heap.size w w4) := below_bt HB3.out hao.below
  rcases hao.lies with rfl | ⟨q8, n8, m8, L, B, F, a', p', t', rfl, hal, hlb, hadds, D0, W0, hdo0⟩
  · clear hao c0 c1 c2
    go_wp2
    go_ret
    exact ⟨rfl, HB4.out⟩
  by_cases hz1 : z < 0
  · clear hao c0 c1 c2 hal hlb hadds hdo0
    go_wp2
    go_ret
    exact ⟨rfl, HB4.out⟩
  by_cases hz2 : (n8 : Int) < z
  · clear hao c0 c1 c2 hal hlb hadds hdo0
    go_wp2
    go_ret
    exact ⟨rfl, HB4.out⟩
  obtain ⟨n, rfl⟩ : ∃ n : Nat, z = n := ⟨z.toNat, by omega⟩
  have hnn : (n : Int) ≤ (n8 : Int) := by omega
  obtain ⟨hn8, hi8, hcap1, hcap2⟩ := hal.lies
  obtain ⟨D, W, hdo⟩ : ∃ D W, doAny count data [] (B.take n) = .ok (D, W) := by
    cases e : doAny count data [] (B.take n) with
    | ok s => exact ⟨s.1, s.2, rfl⟩
    | error cc => rw [doAny_fail e] at hdo0; cases hdo0
  have hok : Okay count D W := doAny_okay hdo
  obtain ⟨Y, hY⟩ : ∃ Y, crashN D W keep = Y := ⟨_, rfl⟩
  obtain ⟨hlogY, hepY, j, a2, la2, t2, hj, hsure, hrecY⟩ := torn_log n keep HG.out.1 HG.out.2.1 HREC.out hadds hdo hY
  have HAL : Hid (AOwn w4 w3.heap.size (.slice q8 n8 m8) L ∧ L.map Prod.fst = B ∧ n8 = B.length) := ⟨hal, hlb, by rw [← hlb, List.length_map]; exact hn8⟩
  have HC : Hid (doAny count data [] (B.take n) = .ok (D, W) ∧ Okay count D W ∧ crashN D W keep = Y) := ⟨hdo, hok, hY⟩
  have HY : Hid (HasLog count Y [] ∧ epochN (logN Y []) = E ∧ j ≤ rs.length ∧ sureN (B.take n) ≤ j ∧ Recs E 0 ((logN Y []).drop 128) (l ++ (rs.map numsOf).take j) a2 la2 t2) := ⟨hlogY, hepY, by rw [List.length_map] at hj; exact hj, hsure, hrecY⟩
  have HP8 : Hid (∀ y ∈ B.take n, y.1 = false → y.2.2.length = 128) := fun y hy hf => by
    obtain ⟨i, h1, _, h3⟩ := hadds.puts y (List.mem_of_mem_take hy) hf
    rw [h3]
    exact secAt_len (by rw [hadds.to.2.1]; exact Nat.mul_le_mul_right 128 h1)
  have hn8I : (n8 : Int) ≤ 1000 := by
    have hf := (hadds.to.1.news.len).2
    have h1 := hadds.to.2
    have h2 := HREC.out.facts (n := 63) (by rw [List.length_drop, log_len HG.out.1]) (by omega)
    have h3 : t.length = (63 - a) * 128 := by rw [h2.2.1]; exact drop_len (by rw [List.length_drop, log_len HG.out.1])
    have h4 := adds_len hadds (by rw [List.length_map]; have := HL.out.2.1.1; have := HL.out.2.1.2.2.2; omega) (by rw [h1.1, h3] at hf; have := Nat.le_of_mul_le_mul_right hf (by decide); omega)
    have h5 := HAL.out.2.2
    omega
  have hm8 : (n8 : Int) ≤ (m8 : Int) := by omega
  have hnm8 : (n : Int) ≤ (m8 : Int) := by omega
  have HX4 : Hid (w4.heap[w.heap.size]? = some (.cells #[.int .i64 count, .slice p data.length c, .slice q 0 m] 25 (0, 0))) := (hao.below.block _ (lt_heap HX3.out)).trans HX3.out
  clear hao c0 c1 c2 hal hlb hadds hdo0 hdo hok hY hlogY hepY hj hsure hrecY hn8 hi8 hcap1 hcap2 hz1 hz2
  obtain ⟨c0, c1, c2, _⟩ := box3 HX4.out
  have HDO : Hid (∀ w', Below w4.heap.size w4 w' → Calls Try.prog 15 #[.agg #[.int .i64 count, .slice p data.length c, .slice q 0 m], .slice q8 n m8] w' fun e w2 => ∃ p7 D7 c7 q7 z7 m7, e = .returned (.tuple #[.agg #[.int .i64 count, .slice p7 D7 c7, .slice q7 z7 m7], .int .i64 0]) ∧ DiskF w'.heap.size w2 (.agg #[.int .i64 count, .slice p7 D7 c7, .slice q7 z7 m7]) count D W ∧ Below w'.heap.size w' w2) := fun w' hb' => by
    obtain ⟨_, hi, _, _⟩ := (HAL.out.1.below hb').lies
    rw [HAL.out.2.1] at hi
    have hlen : n = (B.take n).length := by rw [List.length_take]; have := HAL.out.2.2; omega
    refine (do_all _ count data [] w' ((HD.out.below HB4.out).below hb') q8 n m8 (B.take n) hlen (acts_take hi n) (by rw [← hlen]; omega) _ HC.out.1).mono ?_
    rintro e w2 ⟨⟨v', he, hf⟩, hb⟩
    obtain ⟨p7, c7, q7, m7, rfl, _⟩ := hf.self.parts
    exact ⟨p7, _, c7, q7, _, m7, he, hf, hb⟩
  have hnew : ∀ o, (w4.alloc o).drew.heap[w4.heap.size]? = some o := fun o => heap_alloc_new w4 o
  have hlt4 : w.heap.size < w4.heap.size := lt_heap HX4.out
  go_upto_region 10 with fail
  go_cut [16, 17] from 69 (fun s16 s17 wx => ∃ B' p7 D7 c7 q7 z7 m7, s16 = .pointer (some ⟨B', 0, none⟩) ∧ s17 = .int .i64 0 ∧ Boxed w4 wx B' count p7 D7 c7 q7 z7 m7 D W)
  case first =>
    go_region_with (go_at_call 15; refine (HDO.out _ ?_).mono ?_; (first | exact (Below.refl _ _).drew | exact ((Below.refl _ _).drew).alloc (by simp) _); rintro e w5 ⟨p7, D7, c7, q7, z7, m7, rfl, hf5, hb5⟩; have hz := boxz3 w4 hb5; try (simp only [hnew] at hz; obtain ⟨HZ, z0, z1, z2, y0, y1, y2⟩ := hz rfl))
    all_goals
      go_wp2
      go_meet
      case rel =>
        first
          | exact ⟨_, p7, D7, c7, q7, z7, m7, rfl, rfl, boxed_behind hf5 (below_dw hb5)⟩
          | exact ⟨_, p7, D7, c7, q7, z7, m7, rfl, rfl, boxed_ahead hf5 (by simp) (((Below.refl w4.heap.size w4).alloc (Nat.le_refl _) _).drew.trans (hb5.mono (by simp))) HZ.out⟩
  case rest =>
    obtain ⟨B', p7, D7, c7, q7, z7, m7, rfl, rfl, hbx⟩ := hcut
    have HBX : Hid (Boxed w4 wc B' count p7 D7 c7 q7 z7 m7 D W) := hbx
    have HB7 : Hid (Below w.heap.size w wc) := below_bt HB4.out hbx.below
    have HB37 : Hid (Below w3.heap.size w3 wc) := below_bt HB34.out hbx.below
    clear hbx hnew c0 c1 c2 HDO hlt4
    obtain ⟨c0, c1, c2, _⟩ := box3 HBX.out.box
    have HCR : Hid (∀ w', Below wc.heap.size wc w' → Calls Try.prog 33 #[.agg #[.int .i64 count, .slice p7 D7 c7, .slice q7 z7 m7], .slice ql nl ml] w' fun e w2 => ∃ p8 D8 c8 q8 z8 m8, e = .returned (.tuple #[.agg #[.int .i64 count, .slice p8 D8 c8, .slice q8 z8 m8], .int .i64 0]) ∧ (∀ w3, Below w2.heap.size w2 w3 → DiskIn w3 (.agg #[.int .i64 count, .slice p8 D8 c8, .slice q8 z8 m8]) count Y []) ∧ Below w'.heap.size w' w2) := fun w' hb' => by
      have h1 := crash_ok _ count D W w' (HBX.out.disk.below hb') HC.out.2.1 ql ml keep ((HL.out.1.2.1.below HB7.out).below hb') (by have := HL.out.1.1; have := HL.out.1.2.2; omega)
      rw [← HL.out.1.1] at h1
      refine h1.mono ?_
      rintro e w2 ⟨⟨v', he, hf⟩, hb⟩
      have hin := hf.toIn (okay_crashed HC.out.2.1 keep)
      obtain ⟨p8, c8, q8, m8, rfl, _⟩ := hin.parts
      obtain ⟨D8, hD8⟩ : ∃ D8, (crashN D W keep).length = D8 := ⟨_, rfl⟩
      rw [hD8] at hin he
      rw [HC.out.2.2] at hin
      exact ⟨p8, D8, c8, q8, _, m8, he, fun w3 h3 => hin.below h3, hb⟩
    go_wp2_with fail
    refine (HCR.out _ (Below.refl _ _)).mono ?_
    rintro e w6 ⟨p9, D9, c9, q9, z9, m9, rfl, hin9, hb6⟩
    have HI9 : Hid (∀ w3, Below w6.heap.size w6 w3 → DiskIn w3 (.agg #[.int .i64 count, .slice p9 D9 c9, .slice q9 z9 m9]) count Y []) := hin9
    have HB6 : Hid (Below wc.heap.size wc w6) := hb6
    clear hin9 hb6 c0 c1 c2 HCR
    go_wp2_with fail
    refine (Records_ok _ count Y [] _ (HI9.out _ (below_alloc _ _)) HY.out.1 E HY.out.2.1 HG.out.2.2).mono ?_
    rintro e w8 ⟨rv8, l8, a8, la8, t8, rfl, hrec8, hown8, hb8⟩
    obtain ⟨rfl, _, _, _⟩ := HY.out.2.2.2.2.only hE32 (by omega) hrec8
    obtain ⟨rq8, rm8, rfl, _, _, hrq8⟩ := own_form hown8
    have HRQ8 : Hid (rq8 = none → rm8 = 0) := hrq8
    have HT8 : Hid (StrsIn w8 rq8 ((l ++ (rs.map numsOf).take j).map strOf)) := (own_strs hown8).2.1
    obtain ⟨n9, hn9⟩ : ∃ n, (l ++ (rs.map numsOf).take j).length = n := ⟨_, rfl⟩
    rw [hn9]
    have HN9 : Hid ((l ++ (rs.map numsOf).take j).length = n9 ∧ n9 = nw + j) := ⟨hn9, by rw [← hn9, List.length_append, List.length_take, List.length_map, HNW.out]; have := HY.out.2.2.1; omega⟩
    have HB8 : Hid (Below wc.heap.size wc w8) := below_bt (below_bt HB6.out (below_alloc _ _)) hb8
    have HB38 : Hid (Below w3.heap.size w3 w8) := below_bt HB37.out HB8.out
    have HB48 : Hid (Below w4.heap.size w4 w8) := below_bt HBX.out.below HB8.out
    have HXY : Hid (w8.heap[w6.heap.size]? = some (.cells #[.int .i64 count, .slice p9 D9 c9, .slice q9 z9 m9] 25 (0, 0))) := (hb8.block _ (by simp)).trans (heap_alloc_new _ _)
    have HI8 : Hid (∀ w3, Below w8.heap.size w8 w3 → DiskIn w3 (.agg #[.int .i64 count, .slice p9 D9 c9, .slice q9 z9 m9]) count Y []) := fun w3 h3 => HI9.out _ (below_bt (below_bt (below_alloc _ _) hb8) h3)
    have HLw : Hid (Below w.heap.size w w8) := below_bt HB7.out HB8.out
    obtain ⟨ll, hll⟩ : ∃ ll, l ++ (rs.map numsOf).take j = ll := ⟨_, rfl⟩
    have hn9I : (n9 : Int) ≤ 69 := by have := HN9.out.2; have := HY.out.2.2.1; have := HL.out.2.1.1; omega
    have HYY : Hid (HasLog count Y [] ∧ epochN (logN Y []) = E ∧ Recs E 0 ((logN Y []).drop 128) ll a2 la2 t2) := ⟨HY.out.1, HY.out.2.1, by rw [← hll]; exact HY.out.2.2.2.2⟩
    have HTL : Hid (StrsIn w8 rq8 (ll.map strOf) ∧ n9 = (ll.map strOf).length) := ⟨by rw [← hll]; exact HT8.out, by rw [List.length_map, ← hll]; exact HN9.out.1.symm⟩
    clear hrec8 hown8 hb8 hn9 hrq8 hll
    obtain ⟨c0, c1, c2, _⟩ := box3 HXY.out
    clear HBX HI9 HT8 HN9 HB38 HB48 HB37 HB34 HB6 HP8 HAL HC HY HB4 HX4 HX3 HX2 HX1 HW3 HREC HRQ HNW HLL HD HLG g0 HB1 HB2 HB3 HB7 HB8
    go_wp2_with fail
    refine (added_any p9 q9 D9 c9 z9 m9 count Y qm nm cm ms none 0 0 [] _ (HI8.out _ (Below.refl _ _)) HYY.out.1 E HYY.out.2.1 HG.out.2.2 a2 la2 ll t2 HYY.out.2.2 HL.out.2.2.1 (HL.out.2.2.2.1.below HLw.out) (by omega) rfl (fun h => absurd h (Nat.lt_irrefl 0))).mono ?_
    intro e w9 hao
    have HB89 : Hid (Below w8.heap.size w8 w9) := hao.below
    rcases hao.lies with rfl | ⟨q3, n3, m3, L3, B3, F3, a3, p3, t3, rfl, hal, hlb, hadds, D0, W0, hdo0⟩
    · clear hao c0 c1 c2
      go_wp2
      go_ret
      exact ⟨rfl, below_bt HLw.out HB89.out⟩
    obtain ⟨hn3, hi3, hcap1, hcap2⟩ := hal.lies
    have HAL : Hid (AOwn w9 w8.heap.size (.slice q3 n3 m3) L3 ∧ L3.map Prod.fst = B3 ∧ n3 = B3.length) := ⟨hal, hlb, by rw [← hlb, List.length_map]; exact hn3⟩
    have HAD : Hid (Adds E a2 la2 t2 (ms.map numsOf) B3 F3 a3 p3 t3 ∧ doAny count Y [] B3 = .ok (D0, W0)) := ⟨hadds, hdo0⟩
    have hn3I : (n3 : Int) ≤ 1000 := by
      have hf := (hadds.to.1.news.len).2
      have h1 := hadds.to.2
      have h2 := HYY.out.2.2.facts (n := 63) (by rw [List.length_drop, log_len HYY.out.1]) (by omega)
      have h3 : t2.length = (63 - a2) * 128 := by rw [h2.2.1]; exact drop_len (by rw [List.length_drop, log_len HYY.out.1])
      have h4 := adds_len hadds (by rw [List.length_map]; have := HL.out.2.2.1; have := HL.out.2.2.2.2.2; omega) (by rw [h1.1, h3] at hf; have := Nat.le_of_mul_le_mul_right hf (by decide); omega)
      have h5 := HAL.out.2.2
      omega
    have hm3 : (n3 : Int) ≤ (m3 : Int) := by omega
    have HX9 : Hid (w9.heap[w6.heap.size]? = some (.cells #[.int .i64 count, .slice p9 D9 c9, .slice q9 z9 m9] 25 (0, 0))) := (HB89.out.block _ (lt_heap HXY.out)).trans HXY.out
    have HI : Hid (∀ w3, Below w9.heap.size w9 w3 → DiskIn w3 (.agg #[.int .i64 count, .slice p9 D9 c9, .slice q9 z9 m9]) count Y []) := fun w3 h3 => HI8.out _ (below_bt HB89.out h3)
    have HLw9 : Hid (Below w.heap.size w w9) := below_bt HLw.out HB89.out
    have HTL9 : Hid (StrsIn w9 rq8 (ll.map strOf) ∧ n9 = (ll.map strOf).length) := ⟨HTL.out.1.below HB89.out, HTL.out.2⟩
    clear hao c0 c1 c2 hal hlb hadds hdo0 hn3 hi3 hcap1 hcap2 HTL HI8 HLw HXY HB89
    go_wp2
    go_loopw [24] (fun i wr => ∃ k : Nat, k ≤ n3 + 1 ∧ i = .int .i64 k ∧ Hid (Below w9.heap.size w9 wr)) (fun i _ => n3 + 1 - (intOf i).toNat)
    case atStart => exact ⟨0, by omega, rfl, Below.refl _ _⟩
    case round =>
      obtain ⟨k, hk, rfl, HR⟩ := hrel
      by_cases hkn : k ≤ n3
      · have hkI : (k : Int) ≤ (n3 : Int) := by omega
        have hkm : (k : Int) ≤ (m3 : Int) := by omega
        obtain ⟨D, W, hdo⟩ : ∃ D W, doAny count Y [] (B3.take k) = .ok (D, W) := by
          cases e : doAny count Y [] (B3.take k) with
          | ok s => exact ⟨s.1, s.2, rfl⟩
          | error cc => have h9 := HAD.out.2; rw [doAny_fail e] at h9; cases h9
        have hok : Okay count D W := doAny_okay hdo
        obtain ⟨Z, hZ⟩ : ∃ Z, crashN D W keep = Z := ⟨_, rfl⟩
        obtain ⟨hlogZ, hepZ, j3, a4, la4, t4, hj3, _, hrecZ⟩ := torn_log k keep HYY.out.1 HYY.out.2.1 HYY.out.2.2 HAD.out.1 hdo hZ
        have HC : Hid (doAny count Y [] (B3.take k) = .ok (D, W) ∧ Okay count D W ∧ crashN D W keep = Z) := ⟨hdo, hok, hZ⟩
        have HZ : Hid (HasLog count Z [] ∧ epochN (logN Z []) = E ∧ j3 ≤ ms.length ∧ Recs E 0 ((logN Z []).drop 128) (ll ++ (ms.map numsOf).take j3) a4 la4 t4) := ⟨hlogZ, hepZ, by rw [List.length_map] at hj3; exact hj3, hrecZ⟩
        have HXR : Hid (wr.heap[w6.heap.size]? = some (.cells #[.int .i64 count, .slice p9 D9 c9, .slice q9 z9 m9] 25 (0, 0))) := (HR.out.block _ (lt_heap HX9.out)).trans HX9.out
        have HKN : Hid (k ≤ n3) := hkn
        clear hdo hok hZ hlogZ hepZ hj3 hrecZ hk hkn
        have HDO : Hid (∀ w', Below wr.heap.size wr w' → Calls Try.prog 15 #[.agg #[.int .i64 count, .slice p9 D9 c9, .slice q9 z9 m9], .slice q3 k m3] w' fun e w2 => ∃ p7 D7 c7 q7 z7 m7, e = .returned (.tuple #[.agg #[.int .i64 count, .slice p7 D7 c7, .slice q7 z7 m7], .int .i64 0]) ∧ DiskF w'.heap.size w2 (.agg #[.int .i64 count, .slice p7 D7 c7, .slice q7 z7 m7]) count D W ∧ Below w'.heap.size w' w2) := fun w' hb' => by
          obtain ⟨_, hi, _, _⟩ := (HAL.out.1.below (below_bt HR.out hb')).lies
          rw [HAL.out.2.1] at hi
          have hlen : k = (B3.take k).length := by rw [List.length_take]; have := HAL.out.2.2; have := HKN.out; omega
          refine (do_all _ count Y [] w' (HI.out _ (below_bt HR.out hb')) q3 k m3 (B3.take k) hlen (acts_take hi k) (by rw [← hlen]; omega) _ HC.out.1).mono ?_
          rintro e w2 ⟨⟨v', he, hf⟩, hb⟩
          obtain ⟨p7, c7, q7, m7, rfl, _⟩ := hf.self.parts
          exact ⟨p7, _, c7, q7, _, m7, he, hf, hb⟩
        have hnew : ∀ o, (wr.alloc o).drew.heap[wr.heap.size]? = some o := fun o => heap_alloc_new wr o
        have hltr : w6.heap.size < wr.heap.size := lt_heap HXR.out
        obtain ⟨c0, c1, c2, _⟩ := box3 HXR.out
        go_upto_region 21 with fail
        go_cut [25, 26] from 128 to 189 (fun s25 s26 wx => ∃ B' p7 D7 c7 q7 z7 m7, s25 = .pointer (some ⟨B', 0, none⟩) ∧ s26 = .int .i64 0 ∧ Boxed2 wr wx B' count p7 D7 c7 q7 z7 m7 D W)
        case first =>
          go_region_with (go_at_call 15; refine (HDO.out _ ?_).mono ?_; (first | exact (Below.refl _ _).drew | exact ((Below.refl _ _).drew).alloc (by simp) _); rintro e w5 ⟨p7, D7, c7, q7, z7, m7, rfl, hf5, hb5⟩; have hz := boxz3 wr hb5; try (simp only [hnew] at hz; obtain ⟨HZZ, z0, z1, z2, y0, y1, y2⟩ := hz rfl))
          all_goals
            go_wp2
            go_meet
            case rel =>
              first
                | exact ⟨_, p7, D7, c7, q7, z7, m7, rfl, rfl, boxed_behind hf5 (below_dw hb5), (below_dw hb5).size⟩
                | exact ⟨_, p7, D7, c7, q7, z7, m7, rfl, rfl, boxed_ahead hf5 (by simp) (((Below.refl wr.heap.size wr).alloc (Nat.le_refl _) _).drew.trans (hb5.mono (by simp))) HZZ.out, Nat.le_refl _⟩
        case rest =>
          obtain ⟨B', p7, D7, c7, q7, z7, m7, rfl, rfl, hbx⟩ := hcut
          have HBX : Hid (Boxed2 wr wc B' count p7 D7 c7 q7 z7 m7 D W) := hbx
          have HB7 : Hid (Below w9.heap.size w9 wc) := below_bt HR.out hbx.boxed.below
          clear hbx hnew c0 c1 c2 HDO hltr
          obtain ⟨c0, c1, c2, _⟩ := box3 HBX.out.boxed.box
          have HCR : Hid (Calls Try.prog 33 #[.agg #[.int .i64 count, .slice p7 D7 c7, .slice q7 z7 m7], .slice ql nl ml] wc fun e w2 => ∃ p8 D8 c8 q8 z8 m8, e = .returned (.tuple #[.agg #[.int .i64 count, .slice p8 D8 c8, .slice q8 z8 m8], .int .i64 0]) ∧ DiskF wc.heap.size w2 (.agg #[.int .i64 count, .slice p8 D8 c8, .slice q8 z8 m8]) count Z [] ∧ Below wc.heap.size wc w2) := by
            have h1 := crash_ok _ count D W wc HBX.out.boxed.disk HC.out.2.1 ql ml keep ((HL.out.1.2.1.below HLw9.out).below HB7.out) (by have := HL.out.1.1; have := HL.out.1.2.2; omega)
            rw [← HL.out.1.1] at h1
            refine h1.mono ?_
            rintro e w2 ⟨⟨v', he, hf⟩, hb⟩
            have hin := hf.fresh (okay_crashed HC.out.2.1 keep)
            obtain ⟨p8, c8, q8, m8, rfl, _⟩ := hin.self.parts
            obtain ⟨D8, hD8⟩ : ∃ D8, (crashN D W keep).length = D8 := ⟨_, rfl⟩
            rw [hD8] at hin he
            rw [HC.out.2.2] at hin
            exact ⟨p8, D8, c8, q8, _, m8, he, hin, hb⟩
          go_wp2_with fail
          refine HCR.out.mono ?_
          rintro e w10 ⟨p8, D8, c8, q8, z8, m8, rfl, hin10, hb10⟩
          have HX10 : Hid (w10.heap[B']? = some (.cells #[.int .i64 count, .slice p7 D7 c7, .slice q7 z7 m7] 25 (0, 0))) := (hb10.block _ (lt_heap HBX.out.boxed.box)).trans HBX.out.boxed.box
          have HI10 : Hid (DiskIn (((w10.setCell ⟨B', 0, none⟩ (.int .i64 count)).setCell ⟨B', 1, none⟩ (.slice p8 D8 c8)).setCell ⟨B', 2, none⟩ (.slice q8 z8 m8)) (.agg #[.int .i64 count, .slice p8 D8 c8, .slice q8 z8 m8]) count Z []) := hin10.set3 (lt_heap HBX.out.boxed.box) _ _ _
          have HB10 : Hid (Below w9.heap.size w9 (((w10.setCell ⟨B', 0, none⟩ (.int .i64 count)).setCell ⟨B', 1, none⟩ (.slice p8 D8 c8)).setCell ⟨B', 2, none⟩ (.slice q8 z8 m8))) := below_bt HR.out (set3_below (below_bt HBX.out.boxed.below hb10) HBX.out.own _ _ _)
          clear hin10 hb10 c0 c1 c2 HCR
          obtain ⟨k0, k1, k2, y0, y1, y2⟩ := box3 HX10.out
          go_wp2_with fail
          refine (Records_ok _ count Z [] _ HI10.out HZ.out.1 E HZ.out.2.1 HG.out.2.2).mono ?_
          rintro e w11 ⟨rv11, l11, a11, la11, t11, rfl, hrec11, hown11, hb11⟩
          obtain ⟨rfl, _, _, _⟩ := HZ.out.2.2.2.only hE32 (by omega) hrec11
          obtain ⟨rq11, rm11, rfl, _, _, _⟩ := own_form hown11
          have HT11 : Hid (StrsIn w11 rq11 ((ll ++ (ms.map numsOf).take j3).map strOf)) := (own_strs hown11).2.1
          obtain ⟨n11, hn11⟩ : ∃ n, (ll ++ (ms.map numsOf).take j3).length = n := ⟨_, rfl⟩
          rw [hn11]
          have HN11 : Hid ((ll ++ (ms.map numsOf).take j3).length = n11 ∧ n11 = n9 + j3) := ⟨hn11, by have h9 := HTL9.out.2; rw [List.length_map] at h9; rw [← hn11, List.length_append, List.length_take, List.length_map, h9]; have := HZ.out.2.2.1; omega⟩
          have HB11 : Hid (Below w9.heap.size w9 w11) := below_bt HB10.out hb11
          clear hrec11 hown11 hb11 hn11 k0 k1 k2 y0 y1 y2
          go_wp2_with (at_builtin; refine wpList_append_strs _ rfl _ _ rfl w11.heap.size (.slice none 0 0) [] (ll.map strOf) rq8 n9 rm8 rfl rfl HTL9.out.2 (World.ownsRow_nil _ _ _ _) (HTL9.out.1.below HB11.out) HRQ8.out (by have := HTL9.out.2; simp at *; omega) (Nat.le_refl _) ?_)
          intro x1 w12 hown12 hgr12
          have HO12 : Hid (w12.ownsRow w11.heap.size 9 1 x1 (ll.map strOf).length (Ss (ll.map strOf))) := by
            show World.ownsRow _ _ _ _ _ _ _
            simpa using hown12
          have HB12 : Hid (Below w11.heap.size w11 w12) := (Below.refl _ _).grown hgr12 (Nat.le_refl _) (fun k hk => by cases hk)
          clear hown12 hgr12
          go_wp2_with (at_builtin; refine wpList_append_strs _ rfl _ _ rfl w11.heap.size x1 (ll.map strOf) ms qm nm cm rfl rfl HL.out.2.2.1 HO12.out (((HL.out.2.2.2.1.below HLw9.out).below HB11.out).below HB12.out) HL.out.2.2.2.2.1 (by have := HTL9.out.2; have := HL.out.2.2.1; have := HL.out.2.2.2.2.2; omega) HB12.out.size ?_)
          intro x2 w13 hown13 hgr13
          have HB13 : Hid (Below w11.heap.size w11 w13) := HB12.out.grown hgr13 HB12.out.size (fun k hk => (HO12.out.lt k hk).1)
          have hown13' : w13.ownsRow w11.heap.size 9 1 x2 (ll.map strOf ++ ms).length (Ss (ll.map strOf ++ ms)) := by
            simpa using hown13
          obtain ⟨qA, cA, rfl, hsA, hcA1, hcA2⟩ := own_strs2 hown13'
          obtain ⟨nA, hnA⟩ : ∃ n, (ll.map strOf ++ ms).length = n := ⟨_, rfl⟩
          rw [hnA] at hcA1 ⊢
          have hnAI : (nA : Int) = (n9 : Int) + (nm : Int) := by
            have h2 := HTL9.out.2
            have h3 := HL.out.2.2.1
            rw [List.length_append] at hnA
            omega
          have hn11I : (n11 : Int) = (n9 : Int) + (j3 : Int) := by have := HN11.out.2; omega
          have hj3I : (j3 : Int) ≤ (nm : Int) := by have := HZ.out.2.2.1; have := HL.out.2.2.1; omega
          have hnAc : (n11 : Int) ≤ (cA : Int) := by omega
          have HEQ : Hid ((ll ++ (ms.map numsOf).take j3).map strOf = (ll.map strOf ++ ms).take n11) := by
            show _ = _
            rw [List.map_append, List.map_take, map_nums, HN11.out.2, HTL9.out.2, List.take_length_add_append]
          have hTX := texts_any rq11 qA n11 n11 rm11 cA ((ll ++ (ms.map numsOf).take j3).map strOf) ((ll.map strOf ++ ms).take n11) w13 (by rw [List.length_map]; exact HN11.out.1.symm) (by rw [← HEQ.out, List.length_map]; exact HN11.out.1.symm) (by unfold maxLen; omega) (HT11.out.below HB13.out) (hsA.take n11) true (decide_eq_true HEQ.out)
          have u1 : decide ((n11 : Int) < (n9 : Int)) = false := decide_eq_false (by omega)
          have u1' : decide (n11 < n9) = false := decide_eq_false (by omega)
          have u2 : decide ((nA : Int) < (n11 : Int)) = false := decide_eq_false (by omega)
          have u2' : decide (nA < n11) = false := decide_eq_false (by omega)
          have hn11b : (n11 : Int) ≤ 100 := by omega
          have hnAb : (nA : Int) ≤ 100 := by omega
          clear hown13 hgr13 hown13' hsA hcA1 hcA2 hnA hnAI hn11I hj3I
          go_wp2_with fail
          refine hTX.mono ?_
          rintro e w14 ⟨rfl, hb14⟩
          have HB14 : Hid (Below w9.heap.size w9 w14) := below_bt HB11.out (below_bt HB13.out hb14)
          clear hb14 hTX
          go_wp2
          go_roundw
          case rel => exact ⟨k + 1, by have := HKN.out; omega, by go_num, HB14.out⟩
          case measure => have := HKN.out; simp [intOf]; omega
      · have hkI : (n3 : Int) < (k : Int) := by omega
        go_wp2
        go_ret
        exact ⟨rfl, below_bt HLw9.out HR.out⟩
end Go.Proofs.Ytkjooekicbghdaa
namespace Go.Proofs.Ytkjooekicbghdaa.logAnew
open Go.ChangeShapes Go.WideShapes Go.ChangeAt Go.RowKit
open Go.ChangeMaps (open_string shut_string)
set_option linter.unusedVariables false

theorem own : ownKnob Try.prog.godebug = none := by kernel_rfl
theorem laidOut : laidOutB Try.prog = true := by kernel_rfl

set_option maxRecDepth 8000 in
set_option maxHeartbeats 2000000 in
theorem walk_early (p q : Option Addr) (c m : Nat) (count : Int) (data : List Nat) (ws : Puts) (qs : Option Addr) (ns cs : Nat) (z : Int) (ql : Option Addr) (nl ml : Nat) (qm : Option Addr) (nm cm : Nat) (w : World) (hd : DiskIn w (.agg #[.int .i64 count, .slice p data.length c, .slice q ws.length m]) count data ws)
    (h : largeL count data ws ∨ (¬ largeL count data ws ∧ 0 < ws.length) ∨ (¬ largeL count data ws ∧ ws.length = 0 ∧ (6 : Int) < (ns : Int)) ∨ (¬ largeL count data ws ∧ ws.length = 0 ∧ (ns : Int) ≤ 6 ∧ (6 : Int) < (nm : Int)) ∨ (¬ largeL count data ws ∧ ws.length = 0 ∧ (ns : Int) ≤ 6 ∧ (nm : Int) ≤ 6 ∧ (10000 : Int) < (nl : Int))) :
    Calls Try.prog 8 #[.agg #[.int .i64 count, .slice p data.length c, .slice q ws.length m], .slice qs ns cs, .int .i64 z, .slice ql nl ml, .slice qm nm cm] w fun e w' => e = .returned (.bool true) ∧ Below w.heap.size w w' := by
  have HD : Hid _ := hd
  clear hd
  obtain ⟨zl, hzl⟩ : ∃ zl, ws.length = zl := ⟨_, rfl⟩
  rw [hzl] at HD h ⊢
  clear hzl
  obtain ⟨bl, hbl⟩ : ∃ bl, decide (largeL count data ws) = bl := ⟨_, rfl⟩
  have HLG : Hid (decide (largeL count data ws) = bl) := hbl
  have h' : bl = true ∨ (bl = false ∧ 0 < zl) ∨ (bl = false ∧ zl = 0 ∧ (6 : Int) < (ns : Int)) ∨ (bl = false ∧ zl = 0 ∧ (ns : Int) ≤ 6 ∧ (6 : Int) < (nm : Int)) ∨ (bl = false ∧ zl = 0 ∧ (ns : Int) ≤ 6 ∧ (nm : Int) ≤ 6 ∧ (10000 : Int) < (nl : Int)) := by
    rcases h with h | ⟨h, h2⟩ | ⟨h, h2⟩ | ⟨h, h2⟩ | ⟨h, h2⟩
    · exact .inl (by rw [← hbl]; exact decide_eq_true h)
    · exact .inr (.inl ⟨by rw [← hbl]; exact decide_eq_false h, h2⟩)
    · exact .inr (.inr (.inl ⟨by rw [← hbl]; exact decide_eq_false h, h2⟩))
    · exact .inr (.inr (.inr (.inl ⟨by rw [← hbl]; exact decide_eq_false h, h2⟩)))
    · exact .inr (.inr (.inr (.inr ⟨by rw [← hbl]; exact decide_eq_false h, h2⟩)))
  clear h hbl
  go_enter Try.func8, Try.ntmps8
  go_wp2_with fail
  refine (alive_any _).mono ?_
  rintro e w1 ⟨rfl, hb1⟩
  have HX1 : Hid (w1.heap[w.heap.size]? = some (.cells #[.int .i64 count, .slice p data.length c, .slice q zl m] 25 (0, 0))) := (hb1.block _ (by simp)).trans (heap_alloc_new w _)
  have HB1 : Hid (Below w.heap.size w w1) := below_bt (below_alloc w _) hb1
  clear hb1
  obtain ⟨c0, c1, c2, _⟩ := box3 HX1.out
  go_wp2_with fail
  refine (large5_any _ count data ws _ (HD.out.below HB1.out)).mono ?_
  rintro e w2 ⟨rfl, hb2⟩
  rw [HLG.out]
  have HX2 : Hid (w2.heap[w.heap.size]? = some (.cells #[.int .i64 count, .slice p data.length c, .slice q zl m] 25 (0, 0))) := (hb2.block _ (lt_heap HX1.out)).trans HX1.out
  have HB2 : Hid (Below w.heap.size w w2) := below_bt HB1.out hb2
  clear hb2 c0 c1 c2
  obtain ⟨c0, c1, c2, _⟩ := box3 HX2.out
  rcases h' with rfl | ⟨rfl, h2⟩ | ⟨rfl, rfl, h3⟩ | ⟨rfl, rfl, h3, h4⟩ | ⟨rfl, rfl, h3, h4, h5⟩
  · go_wp2
    go_ret
    exact ⟨rfl, HB2.out⟩
  · have g2 : decide ((0 : Int) < (zl : Int)) = true := decide_eq_true (by omega)
    have g2' : decide (0 < zl) = true := decide_eq_true (by omega)
    go_wp2
    go_ret
    exact ⟨rfl, HB2.out⟩
  · go_wp2
    go_ret
    exact ⟨rfl, HB2.out⟩
  · go_wp2
    go_ret
    exact ⟨rfl, HB2.out⟩
  · go_wp2
    go_ret
    exact ⟨rfl, HB2.out⟩
set_option maxRecDepth 8000 in
set_option maxHeartbeats 2000000 in
theorem walk_err (p q : Option Addr) (c m : Nat) (count : Int) (data : List Nat) (qs : Option Addr) (ns cs : Nat) (rs : List ByteArray) (z : Int) (ql : Option Addr) (nl ml : Nat) (qm : Option Addr) (nm cm : Nat) (w : World) (hd : DiskIn w (.agg #[.int .i64 count, .slice p data.length c, .slice q 0 m]) count data []) (hlg : ¬ largeL count data []) (her : errL count data [] ≠ 0) (hns : ns = rs.length) (hs : StrsIn w qs rs) (hnI : (ns : Int) ≤ 6) (hnmI : (nm : Int) ≤ 6) (hk : (nl : Int) ≤ 10000) :
    Calls Try.prog 8 #[.agg #[.int .i64 count, .slice p data.length c, .slice q 0 m], .slice qs ns cs, .int .i64 z, .slice ql nl ml, .slice qm nm cm] w fun e w' => e = .returned (.bool true) ∧ Below w.heap.size w w' := by
  have HD : Hid _ := hd
  have HLG : Hid (decide (largeL count data []) = false) := decide_eq_false hlg
  obtain ⟨er, he⟩ : ∃ er, errL count data [] = er := ⟨_, rfl⟩
  rw [he] at her
  have HE : Hid (errL count data [] = er ∧ er ≠ 0 ∧ ns = rs.length ∧ StrsIn w qs rs) := ⟨he, her, hns, hs⟩
  have g1 : (er != 0) = true := by simpa using her
  clear hd hlg her he hns hs
  go_enter Try.func8, Try.ntmps8
  go_wp2_with fail
  refine (alive_any _).mono ?_
  rintro e w1 ⟨rfl, hb1⟩
  have HX1 : Hid (w1.heap[w.heap.size]? = some (.cells #[.int .i64 count, .slice p data.length c, .slice q 0 m] 25 (0, 0))) := (hb1.block _ (by simp)).trans (heap_alloc_new w _)
  have HB1 : Hid (Below w.heap.size w w1) := below_bt (below_alloc w _) hb1
  clear hb1
  obtain ⟨c0, c1, c2, _⟩ := box3 HX1.out
  go_wp2_with fail
  refine (large5_any _ count data [] _ (HD.out.below HB1.out)).mono ?_
  rintro e w2 ⟨rfl, hb2⟩
  rw [HLG.out]
  have HX2 : Hid (w2.heap[w.heap.size]? = some (.cells #[.int .i64 count, .slice p data.length c, .slice q 0 m] 25 (0, 0))) := (hb2.block _ (lt_heap HX1.out)).trans HX1.out
  have HB2 : Hid (Below w.heap.size w w2) := below_bt HB1.out hb2
  clear hb2 c0 c1 c2
  obtain ⟨c0, c1, c2, _⟩ := box3 HX2.out
  go_wp2_with fail
  refine (Records_err _ count data [] _ (HD.out.below HB2.out) er HE.out.1 HE.out.2.1).mono ?_
  rintro e w3 ⟨rfl, hb3⟩
  have HX3 : Hid (w3.heap[w.heap.size]? = some (.cells #[.int .i64 count, .slice p data.length c, .slice q 0 m] 25 (0, 0))) := (hb3.block _ (lt_heap HX2.out)).trans HX2.out
  have HB3 : Hid (Below w.heap.size w w3) := below_bt HB2.out hb3
  clear hb3 c0 c1 c2
  obtain ⟨c0, c1, c2, _⟩ := box3 HX3.out
  go_wp2_with fail
  refine (added_err p q data.length c 0 m count data [] qs ns cs rs (.slice none 0 0) _ (HD.out.below HB3.out) er HE.out.1 HE.out.2.1 HE.out.2.2.1 (HE.out.2.2.2.below HB3.out) (by omega)).mono ?_
  rintro e w4 ⟨aq, an, ac, ab, rfl, hb4⟩
  have HB4 : Hid (Below w.heap.size w w4) := below_bt HB3.out hb4
  clear hb4 c0 c1 c2
  go_wp2
  go_ret
  exact ⟨rfl, HB4.out⟩
theorem walk (v : Value) (count : Int) (data : List Nat) (ws : Puts) (vs : Value) (rs : List ByteArray) (z : Int) (vl : Value) (ql : Option Addr) (keep : List Bool) (cl : Nat) (vm : Value) (ms : List ByteArray) (w : World) (hd : DiskIn w v count data ws) (hs : StrRow w vs rs) (wz : (Lit.int .i64 z).wf = true) (hvl : vl = .slice ql keep.length cl) (hl : BoolsIn w ql keep) (hle : keep.length ≤ cl) (hlm : cl ≤ maxLen) (hm : StrRow w vm ms) :
    Calls Try.prog 8 #[v, vs, .int .i64 z, vl, vm] w fun e w' => e = .returned (.bool true) ∧ Below w.heap.size w w' := by
  subst hvl
  obtain ⟨p, c, q, m, rfl, _⟩ := hd.parts
  obtain ⟨qs, cs, rfl, hstr, _, _, hqc⟩ := hs.lies
  obtain ⟨qm, cm, rfl, hstm, _, _, hqm⟩ := hm.lies
  by_cases h1 : largeL count data ws
  · exact walk_early p q c m count data ws qs rs.length cs z ql keep.length cl qm ms.length cm w hd (.inl h1)
  · by_cases h2 : 0 < ws.length
    · exact walk_early p q c m count data ws qs rs.length cs z ql keep.length cl qm ms.length cm w hd (.inr (.inl ⟨h1, h2⟩))
    · by_cases h3 : (6 : Int) < (rs.length : Int)
      · exact walk_early p q c m count data ws qs rs.length cs z ql keep.length cl qm ms.length cm w hd (.inr (.inr (.inl ⟨h1, by omega, h3⟩)))
      · by_cases h3' : (6 : Int) < (ms.length : Int)
        · exact walk_early p q c m count data ws qs rs.length cs z ql keep.length cl qm ms.length cm w hd (.inr (.inr (.inr (.inl ⟨h1, by omega, by omega, h3'⟩))))
        · by_cases h4 : (10000 : Int) < (keep.length : Int)
          · exact walk_early p q c m count data ws qs rs.length cs z ql keep.length cl qm ms.length cm w hd (.inr (.inr (.inr (.inr ⟨h1, by omega, by omega, by omega, h4⟩))))
          · obtain rfl : ws = [] := List.eq_nil_of_length_eq_zero (by omega)
            by_cases h5 : errL count data [] = 0
            · exact anew_main _ count data qs rs.length cs rs z ql keep.length cl keep qm ms.length cm ms w hd h1 h5 rfl hstr hqc (by omega) rfl hstm hqm (by omega) rfl hl (by omega)
            · exact walk_err p q c m count data qs rs.length cs rs z ql keep.length cl qm ms.length cm w hd h1 h5 rfl hstr (by omega) (by omega) (by omega)

/-! ### THE ROW's STEP -/
set_option maxRecDepth 100000 in
theorem lifted (os : Os) (started : os.Started) (H : Type) (enc : TypeId × Value → H) :
    ReturnsInHanded {} Try.checked os 8 .any (Rows.logAnewSpec.pre6 enc Try.prog Try.f8 Rows.logAnewRow.domain false) (Rows.logAnewSpec.post enc Try.prog Try.f8 false true false false) := by
  refine returnsInHanded_of_change (C := Try.checked) own started (by kernel_rfl) Try.func8
    (ChangeSpec.witness6 (enc := enc) (C := Try.checked) false ⟨#[], #[.agg #[.int .i64 0, .slice none 0 0, .slice none 0 0], .slice none 0 0, .int .i64 0, .slice none 0 0, .slice none 0 0], []⟩ 8 (by kernel_rfl) (by kernel_rfl) (by kernel_rfl) (by kernel_rfl)) ?_
  intro W base args ds gs before hval0 hW hcnd _
  have hval : ∀ (j : Nat) t v, Try.f8.params[j]? = some t → args[j]? = some v → Value.okWide Try.prog W .any base t v := hval0
  have hW' := hW
  obtain ⟨p, q, hA0, hV, rfl, hfz, hnd⟩ := hW
  have hA : DataW.TrodAll enc Try.prog W 0 (fun _ => true) true Try.f8.params.toList args.toList ds p := hA0
  rw [Try.params8] at hA hval
  obtain ⟨v0, vs0, d0, ds0, p0, q0, hargs, rfl, rfl, h0, r0⟩ := trodAll_cons hA
  obtain ⟨v1, vs1, d1, ds1, p1, q1, rfl, rfl, rfl, h1, r1⟩ := trodAll_cons r0
  obtain ⟨v2, vs2, d2, ds2, p2, q2, rfl, rfl, rfl, h2, r2⟩ := trodAll_cons r1
  obtain ⟨v3, vs3, d3, ds3, p3, q3, rfl, rfl, rfl, h3, r3⟩ := trodAll_cons r2
  obtain ⟨v4, vs4, d4, ds4, p4, q4, rfl, rfl, rfl, h4, r4⟩ := trodAll_cons r3
  obtain ⟨rfl, rfl, rfl⟩ := trodAll_nil r4
  obtain rfl : args = #[v0, v1, v2, v3, v4] := by cases args; simp_all
  obtain ⟨rfl, rfl⟩ := trodVars_none hV
  have k0 := h0
  have lt0 : ∀ x ∈ p0, x.block < W.heap.size := by obtain ⟨m, hm⟩ := k0; exact DataW.trod_lt m _ _ _ hm
  obtain ⟨count0, data0, ws0, w0⟩ := open_disk (tD := 25) (t := 23) (e := 41) (tb := 22) (eb := 5) Try.underlying25 (by kernel_rfl) (by kernel_rfl) Try.underlying3 rfl rfl Try.underlying23 Try.underlying41 (by kernel_rfl) rfl rfl (by kernel_rfl) (by kernel_rfl) Try.underlying3 rfl Try.underlying22 Try.underlying5 (by kernel_rfl) (hval 0 25 v0 rfl rfl) h0
  have k1 := h1
  have lt1 : ∀ x ∈ p1, x.block < W.heap.size := by obtain ⟨m, hm⟩ := k1; exact DataW.trod_lt m _ _ _ hm
  obtain ⟨qa1, la1, ca1, rfl⟩ := okWide_slice Try.underlying29 (hval 1 29 v1 rfl rfl)
  obtain ⟨fu1, hf1⟩ := h1
  obtain ⟨l1, w1⟩ := open_strs Try.underlying29 Try.underlying9 (by kernel_rfl) hf1
  obtain ⟨a2, rfl, rfl, rfl, w2⟩ := open_int Try.underlying3 (hval 2 3 v2 rfl rfl) h2
  have k3 := h3
  have lt3 : ∀ x ∈ p3, x.block < W.heap.size := by obtain ⟨m, hm⟩ := k3; exact DataW.trod_lt m _ _ _ hm
  obtain ⟨qa3, la3, ca3, rfl⟩ := okWide_slice Try.underlying73 (hval 3 73 v3 rfl rfl)
  obtain ⟨fu3, hf3⟩ := h3
  obtain ⟨q3b, bs3, c3b, e3, w3a, w3b, w3c, w3d⟩ := open_bools Try.underlying73 Try.underlying4 (by kernel_rfl) hf3
  have k4 := h4
  have lt4 : ∀ x ∈ p4, x.block < W.heap.size := by obtain ⟨m, hm⟩ := k4; exact DataW.trod_lt m _ _ _ hm
  obtain ⟨qa4, la4, ca4, rfl⟩ := okWide_slice Try.underlying29 (hval 4 29 v4 rfl rfl)
  obtain ⟨fu4, hf4⟩ := h4
  obtain ⟨l4, w4⟩ := open_strs Try.underlying29 Try.underlying9 (by kernel_rfl) hf4
  clear hA0 hval0
  refine (walk v0 count0 data0 ws0 (.slice qa1 la1 ca1) l1 a2 (.slice qa3 la3 ca3) q3b bs3 c3b (.slice qa4 la4 ca4) l4 W w0 w1 w2 e3 w3a w3b w3c w4).mono fun e W' ⟨he, bel⟩ => ?_
  subst he
  exact ⟨_, rfl, _, _, _, [], _, [], hW', trodAll_mk1 (shut_bool Try.underlying4 _), (trodAll_cons_mk (Below.trod laidOut (by kernel_rfl) (of_decide_eq_true (by kernel_rfl)) k0 bel lt0) (trodAll_cons_mk (Below.trod laidOut (by kernel_rfl) (of_decide_eq_true (by kernel_rfl)) k1 bel lt1) (trodAll_cons_mk (shut_int Try.underlying3 w2) (trodAll_cons_mk (Below.trod laidOut (by kernel_rfl) (of_decide_eq_true (by kernel_rfl)) k3 bel lt3) (trodAll_cons_mk (Below.trod laidOut (by kernel_rfl) (of_decide_eq_true (by kernel_rfl)) k4 bel lt4) trodAll_mk0))))), rfl, bel.frame _, fun h => by cases h⟩

theorem over : Rows.logAnewRow.holds Try.pinned (OpenSpec.ofChange Rows.logAnewSpec) :=
  OpenClaim.holds_of_wide 8 Try.f8 rfl rfl rfl rfl rfl rfl rfl ⟨rfl, rfl, rfl, rfl, rfl⟩ rfl rfl rfl rfl rfl (by kernel_rfl) Try.func8 (by kernel_rfl)
    (of_decide_eq_true (by kernel_rfl)) (by unfold Func.isWrapper; first | (rw [if_pos (by decide +kernel)]; kernel_rfl) | (rw [if_neg (by decide +kernel)]; exact ⟨rfl, rfl⟩))
    (fun os started H enc _ => lifted os started H enc)

theorem proved : Rows.LogAnewSaid := over
end Go.Proofs.Ytkjooekicbghdaa.logAnew
namespace Go.Proofs.Ytkjooekicbghdaa
theorem logAnew_holds : Rows.LogAnewSaid := logAnew.proved
#print axioms logAnew_holds
end Go.Proofs.Ytkjooekicbghdaa
