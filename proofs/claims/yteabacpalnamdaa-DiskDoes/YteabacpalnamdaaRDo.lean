/-
  Contract of the document's own answer Do, where the disk may be.
-/
import Derived.Test.YteabacpalnamdaaRFlush
namespace Go.Proofs.Yteabacpalnamdaa
open Go.RowKit Go.WideShapes
attribute [local go_sem ↓] Go.wp_at_zero Go.wp_at_succ

/-- A disk by value laid into a box of one's own. -/
theorem DiskV.toG {w : World} {base base' B0 : Nat} {count : Int} {dv wv x y z : Value} {data : List Nat} {ws : Puts} (h : DiskV w base (.agg #[.int .i64 count, dv, wv]) count data ws) (hbox : w.heap[B0]? = some (.cells #[x, y, z] 25 (0, 0))) (hB : base' ≤ B0) (hb : base' ≤ base) :
    ∃ vs, DiskG (((w.setCell ⟨B0, 0, none⟩ (.int .i64 count)).setCell ⟨B0, 1, none⟩ dv).setCell ⟨B0, 2, none⟩ wv) base' B0 count dv data wv ws vs := by
  have h2 := (h.mono hb).set3 hbox (.int .i64 count) dv wv
  obtain ⟨dv', wv', vs, e, h3, h4⟩ := h2.lies
  simp only [Value.agg.injEq, Array.mk.injEq, List.cons.injEq, and_true, true_and] at e
  obtain ⟨rfl, rfl⟩ := e
  exact ⟨vs, set3_same _ _ _ _ _ _ _ _ _ hbox, hB, h3, h4⟩
theorem okay_wf {count : Int} {data : List Nat} {ws : Puts} (h : Okay count data ws) : ∀ y ∈ ws, (Lit.int .i64 y.1).wf = true := by
  intro y hy
  have h1 := h.each y hy
  have h2 := h.hi
  exact i64_wf (by omega) (by omega)
theorem ActsIn.at2 {w : World} {b o : Nat} {l : Acts} (h : ActsIn w (some ⟨b, o, none⟩) l) {k : Nat} (hk : k < l.length) :
    w.cell? ⟨b, o + k * 3, none⟩ = some (.bool (l.getD k (false, 0, [])).1) ∧ w.cell? ⟨b, o + k * 3 + 1, none⟩ = some (.int .i64 (l.getD k (false, 0, [])).2.1) ∧ ∃ p c, w.cell? ⟨b, o + k * 3 + 2, none⟩ = some (.slice p (l.getD k (false, 0, [])).2.2.length c) ∧ BIn w p (l.getD k (false, 0, [])).2.2 ∧ (l.getD k (false, 0, [])).2.2.length ≤ c ∧ c ≤ maxLen ∧ (p = none → c = 0) := by
  obtain ⟨b', o', e, hc⟩ := h (by omega)
  simp only [Option.some.injEq, Addr.mk.injEq, and_true] at e
  obtain ⟨rfl, rfl⟩ := e
  obtain ⟨h1, h2, v, h3, hr⟩ := hc k hk
  obtain ⟨p, c, rfl, g, g1, g2, g3⟩ := hr.lies
  exact ⟨h1, by rw [Nat.add_assoc]; exact h2, p, c, by rw [Nat.add_assoc]; exact h3, g, g1, g2, g3⟩
theorem c2_at {w : World} {B : Nat} {x y : Value} {t : TypeId} (h : w.heap[B]? = some (.cells #[x, y] t (0, 0))) : w.cell? ⟨B, 0, none⟩ = some x ∧ w.cell? ⟨B, 1, none⟩ = some y :=
  ⟨cell_of_row _ _ _ _ _ _ h, cell_of_row _ _ _ _ _ _ h⟩
def RDoPost (count : Int) (r : Except Int (List Nat × Puts)) (w : World) (e : Ending) (w' : World) : Prop := (∃ v', e = .returned (.tuple #[v', .int .i64 (resE r)]) ∧ DiskIn w' v' (resC count r) (resD r) (resW r)) ∧ Below w.heap.size w w'
theorem rdo_err {count c : Int} {r : Except Int (List Nat × Puts)} {w w' : World} {e : Ending} (h : r = .error c) (he : e = .returned (.tuple #[zeroDisk, .int .i64 c])) (hb : Below w.heap.size w w') : RDoPost count r w e w' := by
  subst h
  exact ⟨⟨_, he, zero_in w'⟩, hb⟩
set_option maxRecDepth 100000 in
set_option maxHeartbeats 4000000 in
theorem rdo_ok (v : Value) (count : Int) (data : List Nat) (ws : Puts) (w : World) (hd : DiskIn w v count data ws) (ho : Okay count data ws) (ql : Option Addr) (ml : Nat) (l : Acts) (hl : ActsIn w ql l) (hlm : l.length ≤ ml) (hll : ml ≤ 9223372036854775807) (r : Except Int (List Nat × Puts)) (hr : doN count (data, ws) l = r) :
    Calls Try.prog 28 #[v, .slice ql l.length ml] w (RDoPost count r w) := by
  obtain ⟨pd, cd, q, m, rfl, _, _, _, _, _, hqm, hqmm, _⟩ := hd.parts
  have HD : Hid (DiskIn w (.agg #[.int .i64 count, .slice pd data.length cd, .slice q ws.length m]) count data ws) := hd
  have HCW : Hid ((Lit.int .i64 count).wf = true) := hd.count_wf
  have HRR : Hid (doN count (data, ws) l = r) := hr
  have HAL : Hid (ActsIn w ql l) := hl
  have HO : Hid (Okay count data ws) := ho
  have HDL : Hid (data.length ≤ 140737488355328) := by show _ ≤ _; have := ho.len; have := ho.hi; omega
  have HWL : Hid (∀ y ∈ ws, y.2.length ≤ 140737488355328) := fun y hy => by rw [(ho.each y hy).2.2]; omega
  have hfew := ho.few
  obtain ⟨i0, hi, hz0, hz1, hz2⟩ := info_parts info_put
  clear ho hd hr hl
  go_enter Try.func28, Try.ntmps28
  go_wp2_with fail
  refine (may_any _ count data ws _ (HD.out.below ((below_alloc w _).alloc (by simp) _)) true ⟨fun _ => HO.out, fun _ => rfl⟩).mono ?_
  rintro e w1 ⟨rfl, hb1⟩
  replace hb1 := box2_of hb1
  obtain ⟨hB, hR⟩ := box2_cells hb1
  obtain ⟨x0, x1, x2⟩ := cells3 hB
  have hsz := box2_size hb1
  have hbw := box2_below hb1
  obtain ⟨W, hW⟩ : ∃ W, W = ((w.alloc (.cells #[.int .i64 count, .slice pd data.length cd, .slice q ws.length m] 25)).alloc (.cells #[.int .i64 0, .slice none 0 0, .slice none 0 0] 25)) := ⟨_, rfl⟩
  have HX : Hid (∀ w', Below (w.heap.size + 2) W w' → w'.heap[w.heap.size]? = some (.cells #[.int .i64 count, .slice pd data.length cd, .slice q ws.length m] 25 (0, 0)) ∧ w'.heap[w.heap.size + 1]? = some (.cells #[.int .i64 0, .slice none 0 0, .slice none 0 0] 25 (0, 0)) ∧ Below w.heap.size w w' ∧ w.heap.size + 2 ≤ w'.heap.size) := by
    intro w' h
    rw [hW] at h
    exact ⟨(box2_cells h).1, (box2_cells h).2, box2_below h, box2_size h⟩
  rw [← hW] at hb1
  clear hW hB hR
  go_wp2_with fail
  refine (twin_any _ count data ws _ (HD.out.below hbw) HDL.out HWL.out (by omega)).mono ?_
  rintro e w2 ⟨⟨v2, rfl, hv2⟩, hb2⟩
  obtain ⟨dv, wv, vs, rfl, hdv, hwv⟩ := hv2.lies
  obtain ⟨pv, cv, rfl, _⟩ := hdv.form
  obtain ⟨qv, mv, rfl, _⟩ := hwv.lies
  have hz2' := hb2.size
  have HOK0 : Hid (DiskG (w2.alloc (.cells #[.int .i64 count, .slice pv data.length cv, .slice qv ws.length mv] 25)) (w.heap.size + 2) w2.heap.size count (.slice pv data.length cv) data (.slice qv ws.length mv) ws vs) := ⟨heap_alloc_new _ _, by omega, (hdv.mono (by omega)).below (below_alloc _ _), (hwv.mono (by omega)).below (below_alloc _ _)⟩
  have HBW0 : Hid (Below (w.heap.size + 2) W (w2.alloc (.cells #[.int .i64 count, .slice pv data.length cv, .slice qv ws.length mv] 25))) := (hb1.trans (hb2.mono (by omega))).alloc (by omega) _
  clear hv2 hdv hwv x0 x1 x2
  go_wp2
  obtain ⟨W3, hW3⟩ : ∃ W3, W3 = w2.alloc (.cells #[.int .i64 count, .slice pv data.length cv, .slice qv ws.length mv] 25) := ⟨_, rfl⟩
  obtain ⟨B0, hB0⟩ : ∃ B0, B0 = w2.heap.size := ⟨_, rfl⟩
  rw [← hW3, ← hB0] at HOK0 ⊢
  rw [← hW3] at HBW0
  clear hW3 hB0 hb1 hb2 hbw
  go_loopw [7] (fun i wr => ∃ (k : Nat) (d' : List Nat) (ws' : Puts) (pv : Option Addr) (cv : Nat) (qv : Option Addr) (mv : Nat) (vs : List Value), k ≤ l.length ∧ i = .int .i64 k ∧ doN count (data, ws) (l.take k) = .ok (d', ws') ∧ Okay count d' ws' ∧ DiskG wr (w.heap.size + 2) B0 count (.slice pv d'.length cv) d' (.slice qv ws'.length mv) ws' vs ∧ Below (w.heap.size + 2) W wr) (fun i _ => l.length - (intOf i).toNat)
  case atStart => exact ⟨0, data, ws, pv, cv, qv, mv, vs, by omega, rfl, rfl, HO.out, HOK0.out, HBW0.out⟩
  case round =>
    clear HOK0 HBW0 HO HDL HWL HD
    obtain ⟨k, d', ws', pv, cv, qv, mv, vs, hk, rfl, hdo, hok, hG, hbel⟩ := hrel
    have HDO : Hid (doN count (data, ws) (l.take k) = .ok (d', ws')) := hdo
    have HOK : Hid (Okay count d' ws') := hok
    have HG : Hid (DiskG wr (w.heap.size + 2) B0 count (.slice pv d'.length cv) d' (.slice qv ws'.length mv) ws' vs) := hG
    have HBE : Hid (Below (w.heap.size + 2) W wr) := hbel
    obtain ⟨hB1, hR1, hbw1, hsz1⟩ := HX.out wr hbel
    have HBW : Hid (Below w.heap.size w wr) := hbw1
    have HR1 : Hid (wr.heap[w.heap.size + 1]? = some (.cells #[.int .i64 0, .slice none 0 0, .slice none 0 0] 25 (0, 0))) := hR1
    have HB1 : Hid (wr.heap[w.heap.size]? = some (.cells #[.int .i64 count, .slice pd data.length cd, .slice q ws.length m] 25 (0, 0))) := hB1
    have hwl' := hok.few
    have hbz : w.heap.size + 2 ≤ B0 := hG.hB
    have hbl := lt_heap hG.box
    have hmv : ws'.length ≤ mv ∧ mv ≤ 9223372036854775807 := by
      obtain ⟨_, _, e, _, h1, h2, _⟩ := hG.puts.lies
      simp only [Value.slice.injEq] at e
      unfold maxLen at h2
      omega
    clear hdo hok hG hbel hB1 hR1 hbw1
    by_cases hkl : k < l.length
    · obtain ⟨b, o, rfl⟩ := HAL.out.addr (by omega)
      obtain ⟨a0, a1, pb, cb, a2, hbx, hlc, hcm, hpn⟩ := (HAL.out.below HBW.out).at2 hkl
      have HST : Hid (doN count (data, ws) (l.take (k + 1)) = stepA count (d', ws') (l.getD k (false, 0, []))) := doN_step hkl HDO.out
      have HFL : Hid (∀ c, doN count (data, ws) (l.take (k + 1)) = .error c → r = .error c) := fun c h => HRR.out.symm.trans (doN_fail h)
      generalize l.getD k (false, 0, []) = y at *
      obtain ⟨fl, s, xs⟩ := y
      simp only at a0 a1 a2 hbx hlc hcm
      unfold maxLen at hcm
      have HBX : Hid (BIn wr pb xs) := hbx
      have HPN : Hid (pb = none → cb = 0) := hpn
      clear hbx hpn
      cases fl with
      | true =>
        have HD2 : Hid (DiskIn wr (.agg #[.int .i64 count, .slice pv d'.length cv, .slice qv ws'.length mv]) count d' ws') := HG.out.toV.toIn HCW.out (okay_wf HOK.out)
        obtain ⟨b0, b1, b2⟩ := cells3 HG.out.box
        go_wp2_with fail
        refine (made_any _ count d' ws' _ HD2.out HOK.out true none 0 [] (boolsIn_nil _) (by simp)).mono ?_
        rintro e w4 ⟨⟨v4, rfl, hv4⟩, hb4⟩
        rw [kept_all _ _ _ _ rfl] at hv4
        obtain ⟨dv4, wv4, vs4, rfl, hd4, hw4⟩ := hv4.lies
        obtain ⟨p4, c4, rfl, _⟩ := hd4.form
        obtain ⟨q4, m4, rfl, _⟩ := hw4.lies
        have hbox4 := (hb4.block _ hbl).trans HG.out.box
        obtain ⟨vsn, hgn⟩ := hv4.toG hbox4 hbz hsz1
        obtain ⟨f0, f1, f2⟩ := free3 hbox4
        obtain ⟨z0, z1, z2⟩ := cells3 hbox4
        have R1 : Hid (DiskG (((w4.setCell ⟨B0, 0, none⟩ (.int .i64 count)).setCell ⟨B0, 1, none⟩ (.slice p4 (settleN d' ws').length c4)).setCell ⟨B0, 2, none⟩ (.slice q4 (List.length (α := Int × List Nat) []) m4)) (w.heap.size + 2) B0 count (.slice p4 (settleN d' ws').length c4) (settleN d' ws') (.slice q4 (List.length (α := Int × List Nat) []) m4) [] vsn) := hgn
        have R2 : Hid (Below (w.heap.size + 2) W (((w4.setCell ⟨B0, 0, none⟩ (.int .i64 count)).setCell ⟨B0, 1, none⟩ (.slice p4 (settleN d' ws').length c4)).setCell ⟨B0, 2, none⟩ (.slice q4 (List.length (α := Int × List Nat) []) m4))) := set3_below (HBE.out.trans (hb4.mono hsz1)) hbz _ _ _
        have R3 : Hid (doN count (data, ws) (l.take (k + 1)) = .ok (settleN d' ws', [])) := by show _ = _; rw [HST.out]; rfl
        have R4 : Hid (Okay count (settleN d' ws') []) := okay_settled HOK.out
        clear hv4 hd4 hw4 hgn hbox4 hb4 a0 a1 a2 b0 b1 b2 HG HBE HD2 HST HFL HDO HOK HB1 HR1 HBW HBX HPN
        generalize settleN d' ws' = dn at *
        go_wp2
        go_roundw
        case rel => exact ⟨k + 1, dn, [], p4, c4, q4, m4, vsn, by omega, by go_num, R3.out, R4.out, R1.out, R2.out⟩
        case measure => simp [intOf]; omega
      | false =>
        by_cases g1 : 0 ≤ s ∧ s < count
        · by_cases g2 : xs.length = 128
          · by_cases g3 : ws'.length < 4096
            · have HE : Hid (stepA count (d', ws') (false, s, xs) = .ok (d', ws' ++ [(s, xs)])) := by
                show stepA _ _ _ = _
                simp [stepA, g1, g2, show ¬ 4096 ≤ ws'.length from by omega]
              have R3 : Hid (doN count (data, ws) (l.take (k + 1)) = .ok (d', ws' ++ [(s, xs)])) := HST.out.trans HE.out
              have R4 : Hid (Okay count d' (ws' ++ [(s, xs)])) := okay_step (s := (d', ws')) (s' := (d', ws' ++ [(s, xs)])) HOK.out HE.out
              have HX8 : Hid (xs.length = 128) := g2
              have hgx : ((xs.length : Int) != 128) = false := by simp; omega
              have hg3 : (ws'.length : Int) < 4096 := by omega
              clear g3 hwl' hfew
              clear g2 HST HFL HE HDO HOK HR1 HBW
              have HG4' : Hid (DiskG (wr.alloc (.cells #[.int .i64 s, .slice pb xs.length cb] 51)) (w.heap.size + 2) B0 count (.slice pv d'.length cv) d' (.slice qv ws'.length mv) ws' vs) := HG.out.below (below_alloc _ _)
              have HBW4' : Hid (Below (w.heap.size + 2) W (wr.alloc (.cells #[.int .i64 s, .slice pb xs.length cb] 51))) := HBE.out.alloc hsz1 _
              have HBX4' : Hid (BIn (wr.alloc (.cells #[.int .i64 s, .slice pb xs.length cb] 51)) pb xs) := HBX.out.alloc _
              have HT' : Hid ((wr.alloc (.cells #[.int .i64 s, .slice pb xs.length cb] 51)).heap[wr.heap.size]? = some (.cells #[.int .i64 s, .slice pb xs.length cb] 51 (0, 0))) := heap_alloc_new _ _
              have HNP' : Hid (some wr.heap.size ≠ (Value.slice qv ws'.length mv).ownBlock) := fun e => by have := (HG.out.puts.row.lt _ e.symm).2; omega
              have HPNE' : Hid (wr.heap.size ≠ B0) := by show _ ≠ _; omega
              have hs4' : w.heap.size + 2 ≤ (wr.alloc (.cells #[.int .i64 s, .slice pb xs.length cb] 51)).heap.size := by rw [World.size_alloc]; omega
              obtain ⟨y0, y1, y2⟩ := cells3 (HX.out _ HBW4'.out).1
              obtain ⟨b0, b1, b2⟩ := cells3 HG.out.box
              obtain ⟨e0, e1⟩ := c2_at HT'.out
              clear HG HBE HBX HB1
              go_wp2
              obtain ⟨W4, hW4⟩ : ∃ W4, W4 = wr.alloc (.cells #[.int .i64 s, .slice pb xs.length cb] 51) := ⟨_, rfl⟩
              obtain ⟨PB, hPB⟩ : ∃ PB, PB = wr.heap.size := ⟨_, rfl⟩
              rw [← hW4] at HG4' HBW4' HBX4' HT' hs4' ⊢
              rw [← hPB] at HT' HNP' HPNE' ⊢
              have HG4 : Hid (DiskG W4 (w.heap.size + 2) B0 count (.slice pv d'.length cv) d' (.slice qv ws'.length mv) ws' vs) := HG4'
              have HBW4 : Hid (Below (w.heap.size + 2) W W4) := HBW4'
              have HBX4 : Hid (BIn W4 pb xs) := HBX4'
              have HNP : Hid (some PB ≠ (Value.slice qv ws'.length mv).ownBlock) := HNP'
              have HPNE : Hid (PB ≠ B0) := HPNE'
              have hs4 : w.heap.size + 2 ≤ W4.heap.size := hs4'
              have HS : W4.drew.cell? ⟨B0, 2, none⟩ = some (.slice qv ws'.length mv) := (cells3 HG4.out.box).2.2
              have HT0 : W4.drew.cell? ⟨PB, 0, none⟩ = some (.int .i64 s) ∧ W4.drew.cell? ⟨PB, 1, none⟩ = some (.slice pb xs.length cb) := c2_at HT'.out
              clear hW4 hPB HG4' HBW4' HBX4' HNP' HPNE' hs4' HT' y0 y1 y2 b0 b1 b2 e0 e1 a0 a1 a2
              refine wp_region_noPanic ?_
              refine beginZ (T := fun w' => w'.cell? ⟨PB, 0, none⟩ = some (.int .i64 s) ∧ w'.cell? ⟨PB, 1, none⟩ = some (.slice pb xs.length cb)) (S := fun w' => w'.cell? ⟨B0, 2, none⟩ = some (.slice qv ws'.length mv)) 11 (by kernel_rfl) ?_
              refine takeT 0 54 (v := ?_) rfl rfl (by kernel_rfl) (by kernel_rfl) (by kernel_rfl) (by kernel_rfl) (fun _ _ _ h => h) (by rfl) ?_ (by assumption) (by assumption) ?_
              rotate_left
              · intro w hTw; go_simp; first | done | with_reducible rfl
              simp only [Act.put, List.setIfInBounds_toArray, List.set_cons_zero, List.set_cons_succ]
              refine takeZ 1 55 9 (v := ?_) rfl rfl (by kernel_rfl) (by kernel_rfl) (by kernel_rfl) (by kernel_rfl) (by kernel_rfl) (by kernel_rfl) (by kernel_rfl) (fun _ _ _ h => h) (by rfl) ?_ (by assumption) (by assumption) ?_
              rotate_left
              · intro w hTw hSw; go_simp; first | done | with_reducible rfl
              simp only [Act.put, List.setIfInBounds_toArray, List.set_cons_zero, List.set_cons_succ]
              refine takeT 2 56 (v := ?_) rfl rfl (by kernel_rfl) (by kernel_rfl) (by kernel_rfl) (by kernel_rfl) (fun _ _ _ h => h) (by rfl) ?_ (by assumption) (by assumption) ?_
              rotate_left
              · intro w hTw; go_simp; first | done | with_reducible rfl
              simp only [Act.put, List.setIfInBounds_toArray, List.set_cons_zero, List.set_cons_succ]
              refine takeT 3 57 (v := ?_) rfl rfl (by kernel_rfl) (by kernel_rfl) (by kernel_rfl) (by kernel_rfl) (fun _ _ _ h => h) (by rfl) ?_ (by assumption) (by assumption) ?_
              rotate_left
              · intro w hTw; go_simp; first | done | with_reducible rfl
              simp only [Act.put, List.setIfInBounds_toArray, List.set_cons_zero, List.set_cons_succ]
              refine takeT 4 58 (v := ?_) rfl rfl (by kernel_rfl) (by kernel_rfl) (by kernel_rfl) (by kernel_rfl) (fun _ _ _ h => h) (by rfl) ?_ (by assumption) (by assumption) ?_
              rotate_left
              · intro w hTw; go_simp; first | done | with_reducible rfl
              simp only [Act.put, List.setIfInBounds_toArray, List.set_cons_zero, List.set_cons_succ]
              refine takeT 5 59 (v := ?_) rfl rfl (by kernel_rfl) (by kernel_rfl) (by kernel_rfl) (by kernel_rfl) (fun _ _ _ h => h) (by rfl) ?_ (by assumption) (by assumption) ?_
              rotate_left
              · intro w hTw; go_simp; first | done | with_reducible rfl
              simp only [Act.put, List.setIfInBounds_toArray, List.set_cons_zero, List.set_cons_succ]
              refine oneZ 6 (by kernel_rfl) rfl (by rfl) (fun K hK => ?_)
              go_simp
              refine (rbytes_any pb cb _ xs _ rfl (show BIn W4.drew pb xs from HBX4.out) HPN.out (by rw [HX8.out]; omega)).mono ?_
              rintro e w4 ⟨xv, rfl, hxg, hb4⟩
              obtain ⟨px, cx, rfl, _⟩ := hxg.form
              go_simp
              refine hK.out _ _ ⟨below_cell_some hb4 HT0.1, below_cell_some hb4 HT0.2⟩ (below_cell_some hb4 HS) (fun hTx hSx => ?_)
              clear hK K HS HT0
              refine takeT 7 61 (v := ?_) rfl rfl (by kernel_rfl) (by kernel_rfl) (by kernel_rfl) (by kernel_rfl) (fun _ _ _ h => h) (by rfl) ?_ (by assumption) (by assumption) ?_
              rotate_left
              · intro w hTw; go_simp; first | done | with_reducible rfl
              simp only [Act.put, List.setIfInBounds_toArray, List.set_cons_zero, List.set_cons_succ]
              refine oneZ 8 (by kernel_rfl) rfl (by rfl) (fun K hK => ?_)
              go_simp
              refine hK.out _ _ ⟨below_cell_some (below_alloc w4 _) hTx.1, below_cell_some (below_alloc w4 _) hTx.2⟩ (below_cell_some (below_alloc w4 _) hSx) (fun hTy hSy => ?_)
              clear hK K hTx hSx
              refine oneZ 9 (by kernel_rfl) rfl (by rfl) (fun K hK => ?_)
              have hok4 := HG4.out.below (below_undrew hb4)
              refine step_append_lies _ (by rfl) (.tmp 55) (.tmp 62) 23 (by rfl) (w.heap.size + 2) 51 i0 _ 2 32 Try.underlying23 hi hz0 hz1 hz2 rfl (by omega) (.slice qv ws'.length mv) ws'.length (cellsV ws' vs) (by rfl) ((hok4.puts.below (below_alloc w4 _)).row) ⟨w4.heap.size, 0, none⟩ 1 1 [.int .i64 s, .slice px xs.length cx] (by rfl) (by rfl) (World.news_of_block (cs := #[.int .i64 s, .slice px xs.length cx]) (t := 51) (fr := (0, 0)) (heap_alloc_new w4 _)) (two_oneCell _ _ _ _) (by omega) (by unfold maxLen; omega) (by omega) (by have := hb4.size; rw [World.size_alloc]; simp at *; omega) (w4.heap.size + 1) (by rw [World.size_alloc]) ?_
              intro g' cap' w5 hown5 hgrow hat hlt5
              have HN2 : Hid (some B0 ≠ (Value.slice qv ws'.length mv).ownBlock) := HG4.out.puts.apart (by decide) HG4.out.box
              have HN3 : Hid (some PB ≠ (Value.slice qv ws'.length mv).ownBlock) := HNP.out
              refine hK.out _ _ ⟨hgrow.cell hTy.1 HN3.out, hgrow.cell hTy.2 HN3.out⟩ (hgrow.cell hSy HN2.out) (fun hTx hSx => ?_)
              clear hK K hTy hSy hat hlt5
              show wpAnyZ _ _ _ _ _ _ _ _ _ (Act.put _ (some 63) _) _
              simp only [Act.put, List.setIfInBounds_toArray, List.set_cons_zero, List.set_cons_succ]
              refine takeT 10 64 (v := ?_) rfl rfl (by kernel_rfl) (by kernel_rfl) (by kernel_rfl) (by kernel_rfl) (fun _ _ _ h => h) (by rfl) ?_ (by assumption) (by assumption) ?_
              rotate_left
              · intro w hTw; go_simp; first | done | with_reducible rfl
              simp only [Act.put, List.setIfInBounds_toArray, List.set_cons_zero, List.set_cons_succ]
              refine lastZ (by kernel_rfl) rfl (by rfl) (fun K hK => ?_)
              have hpd := hok4.pushed (s := s) (n := ws'.length + 1) (xs := xs) (xv := .slice px xs.length cx) (hxg.mono (show w.heap.size + 2 ≤ W4.drew.heap.size from hs4)) rfl hown5 hgrow
              have hbx : w5.heap[B0]? = some (.cells #[.int .i64 count, .slice pv d'.length cv, .slice qv ws'.length mv] 25 (0, 0)) := (hgrow.block _ (by have := lt_heap hok4.box; rw [World.size_alloc]; omega) HN2.out).trans (((below_alloc w4 _).block _ (lt_heap hok4.box)).trans hok4.box)
              have hfr := frozen_of_row w5 B0 2 _ _ hbx
              have hbW5 : Below (w.heap.size + 2) W w5 := (((HBW4.out.trans ((below_undrew hb4).mono hs4)).alloc (by have := hb4.size; simp at *; omega) _)).grown hgrow (by rw [World.size_alloc]; have := hb4.size; simp at *; omega) (fun x hx => (hok4.puts.row.lt x hx).1)
              have HPD : Hid _ := hpd
              clear hbx hpd
              go_simp
              refine hK.out _ _ (c2_setCell (a := ⟨B0, 2, none⟩) hTx HPNE.out _) ?_
              clear hK K
              refine doneZ (by kernel_rfl) (NoPanic.normal ?_) _
              have R2 : Hid (Below (w.heap.size + 2) W (w5.setCell ⟨B0, 2, none⟩ (.slice (some ⟨g', 0, none⟩) (ws'.length + 1) cap'))) := hbW5.setCell (p := ⟨B0, 2, none⟩) hbz (.slice (some ⟨g', 0, none⟩) (ws'.length + 1) cap')
              have R1 : Hid (DiskG (w5.setCell ⟨B0, 2, none⟩ (.slice (some ⟨g', 0, none⟩) (ws'.length + 1) cap')) (w.heap.size + 2) B0 count (.slice pv d'.length cv) d' (.slice (some ⟨g', 0, none⟩) (ws'.length + 1) cap') (ws' ++ [(s, xs)]) (vs ++ [.slice px xs.length cx])) := HPD.out
              have HLN : Hid (ws'.length + 1 = (ws' ++ [(s, xs)]).length) := by show _ = _; simp
              generalize (w5.setCell ⟨B0, 2, none⟩ (.slice (some ⟨g', 0, none⟩) (ws'.length + 1) cap')) = w6 at *
              clear HPD
              go_wp2
              go_roundw
              case rel => exact ⟨k + 1, d', ws' ++ [(s, xs)], pv, cv, some ⟨g', 0, none⟩, cap', vs ++ [.slice px xs.length cx], by omega, by go_num, R3.out, R4.out, by rw [← HLN.out]; exact R1.out, R2.out⟩
              case measure => simp [intOf]; omega
            · have HE : Hid (stepA count (d', ws') (false, s, xs) = .error 4) := by
                show stepA _ _ _ = _
                simp [stepA, g1, g2, show 4096 ≤ ws'.length from by omega]
              have hgx : ((xs.length : Int) != 128) = false := by simp; omega
              have HF : Hid (r = .error 4) := HFL.out _ (HST.out.trans HE.out)
              have hg3 : (4096 : Int) ≤ (ws'.length : Int) := by omega
              clear g2 g3 hwl' hfew
              have hb3 := HBE.out.alloc hsz1 (.cells #[.int .i64 s, .slice pb xs.length cb] 51)
              obtain ⟨hres1, hres2, hbw2, hsz2⟩ := HX.out _ hb3
              obtain ⟨r0, r1, r2⟩ := cells3 hres2
              obtain ⟨f0, f1, f2⟩ := free3 hres2
              obtain ⟨y0, y1, y2⟩ := cells3 hres1
              obtain ⟨b0, b1, b2⟩ := cells3 HG.out.box
              obtain ⟨e0, e1⟩ := c2_at (heap_alloc_new wr (.cells #[.int .i64 s, .slice pb xs.length cb] 51))
              clear hb3 hres2 hres1
              go_wp2
              (try simp only [Exit.inBlock, Exit.then])
              refine bodyPost_ret (v := .tuple #[zeroDisk, .int .i64 4]) ?_ rfl (rdo_err HF.out rfl (set3_below hbw2 (by omega) _ _ _))
              rw [results_cell_tmp rfl]
              go_simp
          · have HE : Hid (stepA count (d', ws') (false, s, xs) = .error 8) := by
              show stepA _ _ _ = _
              simp [stepA, g1, g2]
            have hgx : ((xs.length : Int) != 128) = true := by simp; omega
            have HF : Hid (r = .error 8) := HFL.out _ (HST.out.trans HE.out)
            have hb3 := HBE.out.alloc hsz1 (.cells #[.int .i64 s, .slice pb xs.length cb] 51)
            obtain ⟨hres1, hres2, hbw2, hsz2⟩ := HX.out _ hb3
            obtain ⟨r0, r1, r2⟩ := cells3 hres2
            obtain ⟨f0, f1, f2⟩ := free3 hres2
            obtain ⟨y0, y1, y2⟩ := cells3 hres1
            obtain ⟨b0, b1, b2⟩ := cells3 HG.out.box
            obtain ⟨e0, e1⟩ := c2_at (heap_alloc_new wr (.cells #[.int .i64 s, .slice pb xs.length cb] 51))
            clear hb3 hres2 hres1
            go_wp2
            (try simp only [Exit.inBlock, Exit.then])
            refine bodyPost_ret (v := .tuple #[zeroDisk, .int .i64 8]) ?_ rfl (rdo_err HF.out rfl (set3_below hbw2 (by omega) _ _ _))
            rw [results_cell_tmp rfl]
            go_simp
        · have HE : Hid (stepA count (d', ws') (false, s, xs) = .error 21) := by
            show stepA _ _ _ = _
            simp [stepA, g1]
          by_cases g4 : s < 0
          · have HF : Hid (r = .error 21) := HFL.out _ (HST.out.trans HE.out)
            have hb3 := HBE.out.alloc hsz1 (.cells #[.int .i64 s, .slice pb xs.length cb] 51)
            obtain ⟨hres1, hres2, hbw2, hsz2⟩ := HX.out _ hb3
            obtain ⟨r0, r1, r2⟩ := cells3 hres2
            obtain ⟨f0, f1, f2⟩ := free3 hres2
            obtain ⟨y0, y1, y2⟩ := cells3 hres1
            obtain ⟨b0, b1, b2⟩ := cells3 HG.out.box
            obtain ⟨e0, e1⟩ := c2_at (heap_alloc_new wr (.cells #[.int .i64 s, .slice pb xs.length cb] 51))
            clear hb3 hres2 hres1
            go_wp2
            (try simp only [Exit.inBlock, Exit.then])
            refine bodyPost_ret (v := .tuple #[zeroDisk, .int .i64 21]) ?_ rfl (rdo_err HF.out rfl (set3_below hbw2 (by omega) _ _ _))
            rw [results_cell_tmp rfl]
            go_simp
          · have HF : Hid (r = .error 21) := HFL.out _ (HST.out.trans HE.out)
            have hb3 := HBE.out.alloc hsz1 (.cells #[.int .i64 s, .slice pb xs.length cb] 51)
            obtain ⟨hres1, hres2, hbw2, hsz2⟩ := HX.out _ hb3
            obtain ⟨r0, r1, r2⟩ := cells3 hres2
            obtain ⟨f0, f1, f2⟩ := free3 hres2
            obtain ⟨y0, y1, y2⟩ := cells3 hres1
            obtain ⟨b0, b1, b2⟩ := cells3 HG.out.box
            obtain ⟨e0, e1⟩ := c2_at (heap_alloc_new wr (.cells #[.int .i64 s, .slice pb xs.length cb] 51))
            clear hb3 hres2 hres1
            go_wp2
            (try simp only [Exit.inBlock, Exit.then])
            refine bodyPost_ret (v := .tuple #[zeroDisk, .int .i64 21]) ?_ rfl (rdo_err HF.out rfl (set3_below hbw2 (by omega) _ _ _))
            rw [results_cell_tmp rfl]
            go_simp
    · obtain rfl : k = l.length := by omega
      have HN : Hid (r = .ok (d', ws')) := by have := HDO.out; rw [List.take_length] at this; exact HRR.out.symm.trans this
      obtain ⟨b0, b1, b2⟩ := cells3 HG.out.box
      obtain ⟨r0, r1, r2⟩ := cells3 HR1.out
      obtain ⟨f0, f1, f2⟩ := free3 HR1.out
      have HV : Hid (DiskV wr (w.heap.size + 2) (.agg #[.int .i64 count, .slice pv d'.length cv, .slice qv ws'.length mv]) count d' ws') := HG.out.toV
      clear HG HDO HAL
      go_wp2
      (try simp only [Exit.inBlock, Exit.then])
      refine bodyPost_ret (v := .tuple #[.agg #[.int .i64 count, .slice pv d'.length cv, .slice qv ws'.length mv], .int .i64 0]) ?_ rfl ?_
      · rw [results_cell_tmp rfl]
        go_simp
      · have e := HN.out
        subst e
        exact ⟨⟨_, rfl, (HV.out.set3 HR1.out _ _ _).toIn HCW.out (okay_wf HOK.out)⟩, set3_below HBW.out (by omega) _ _ _⟩
end Go.Proofs.Yteabacpalnamdaa
