import Derived.Test.YtblnoekogdpolaaDoorJDWt
import Derived.Test.YtblnoekogdpolaaDoorJDCk
namespace Go.Proofs.YtblnoekogdpolaaDoor
open Go.RowKit Go.WideShapes Go.Joins
def TxtS (v : JB) (s : ByteArray) (k : Nat) : Prop := (chkB v 1 ≠ 0 → k = chkB v 1 ∧ s = ByteArray.empty) ∧
    (chkB v 1 = 0 → (16384 < (J.written v.toJ).length → k = 3 ∧ s = ByteArray.empty) ∧ ((J.written v.toJ).length ≤ 16384 → k = 0 ∧ numsOf s = J.written v.toJ))
theorem txt_one {v : JB} {s s' : ByteArray} {k k' : Nat} (h : TxtS v s k) (h' : TxtS v s' k') : s = s' ∧ k = k' := by
  by_cases hc : chkB v 1 = 0
  · by_cases hl : 16384 < (J.written v.toJ).length
    · obtain ⟨rfl, rfl⟩ := (h.2 hc).1 hl
      obtain ⟨rfl, rfl⟩ := (h'.2 hc).1 hl
      exact ⟨rfl, rfl⟩
    · obtain ⟨rfl, h1⟩ := (h.2 hc).2 (by omega)
      obtain ⟨rfl, h2⟩ := (h'.2 hc).2 (by omega)
      exact ⟨numsOf_inj (h1.trans h2.symm), rfl⟩
  · obtain ⟨rfl, rfl⟩ := h.1 hc
    obtain ⟨rfl, rfl⟩ := h'.1 hc
    exact ⟨rfl, rfl⟩
set_option maxHeartbeats 2000000 in
set_option maxRecDepth 8000 in
theorem dText_any (A : Array Value) (v : JB) (w : World) (hz : chkB v 1 = 0 → szB v ≤ 18000) (h : JIn w (fun _ => True) A v) :
    Calls Tryd.prog 21 #[.agg A] w fun e w' => TextP v w e w' := by
  obtain ⟨k, b, n, t, nq, nl, nc, iq, il, ic, rfl⟩ := jin_form h
  have b1 := below_new w (.cells (jA k b n t nq nl nc iq il ic) 25)
  have n1 := _root_.Go.heap_alloc_new w (.cells (jA k b n t nq nl nc iq il ic) 25)
  have C := dCheck_any _ v _ _ (h.bel b1)
  have HX : Hid (∀ w', Below (w.alloc (.cells (jA k b n t nq nl nc iq il ic) 25)).heap.size (w.alloc (.cells (jA k b n t nq nl nc iq il ic) 25)) w' → w'.heap[w.heap.size]? = some (.cells (jA k b n t nq nl nc iq il ic) 25 (0, 0)) ∧ Below w.heap.size w w') := fun w' hb =>
    ⟨box_below n1 hb, below_more b1 hb⟩
  have HH : Hid (JIn w (fun _ => True) (jA k b n t nq nl nc iq il ic) v ∧ RngI v ∧ (chkB v 1 = 0 → szB v ≤ 18000)) := ⟨h, jin_rng h, hz⟩
  obtain ⟨⟨c0, c1, c2, c3, c4, c5⟩, f0, f1, f2, f3, f4, f5⟩ := row6_cells n1
  obtain ⟨E, hE⟩ : ∃ E, chkB v 1 = E := ⟨_, rfl⟩
  have HE : Hid (chkB v 1 = E) := hE
  rw [hE] at C
  by_cases hE0 : E ≠ 0
  · have hEI : ((E : Int) != 0) = true := by simpa using fun e : (E : Int) = 0 => hE0 (by omega)
    have HZ : Hid (E ≠ 0) := hE0
    unfold jA at C HX c0 c1 c2 c3 c4 c5 ⊢
    clear b1 n1 h hE hE0 hz f0 f1 f2 f3 f4 f5
    go_enter Tryd.func21, Tryd.ntmps21
    go_wp2_with fail
    refine C.mono ?_
    rintro e w1 ⟨rfl, hb1⟩
    simp only []
    go_wp2_with fail
    go_ret2
    exact ⟨_, E, rfl, (HX.out w1 hb1).2, fun _ => ⟨HE.out.symm, rfl⟩, fun h0 => absurd (HE.out.symm.trans h0) HZ.out⟩
  have hE0 := Classical.not_not.1 hE0
  subst hE0
  rw [show (((0 : Nat) : Int)) = 0 from rfl] at C
  obtain ⟨hfit, hht⟩ := chk_fit 32 v 1 (by omega) HH.out.2.1 hE
  have HF : Hid (Fit v ∧ v.ht ≤ 33 ∧ szB v ≤ 18000) := ⟨hfit, hht, hz hE⟩
  have HL : Hid ((J.written v.toJ).length ≤ 500000) := by
    show _ ≤ _
    have := wr_len v hfit
    have := hz hE
    omega
  have D : Hid (∀ w', Below w.heap.size w w' → Calls Tryd.prog 42 #[.agg (jA k b n t nq nl nc iq il ic)] w' fun e w'' => U8P (J.written v.toJ) w' e w'') := fun w' hb =>
    dwritten_any 33 v hht _ _ w' hfit (hz hE) (h.bel hb)
  obtain ⟨Wl, hWl⟩ : ∃ Wl, J.written v.toJ = Wl := ⟨_, rfl⟩
  have HW : Hid (J.written v.toJ = Wl) := hWl
  rw [hWl] at D HL
  unfold jA at C HX D c0 c1 c2 c3 c4 c5 ⊢
  clear b1 n1 h hE hfit hht hWl hz f0 f1 f2 f3 f4 f5
  go_enter Tryd.func21, Tryd.ntmps21
  go_wp2_with fail
  refine C.mono ?_
  rintro e w1 ⟨rfl, hb1⟩
  obtain ⟨n1, B1⟩ := HX.out w1 hb1
  clear c0 c1 c2 c3 c4 c5 C hb1
  obtain ⟨⟨y0, y1, y2, y3, y4, y5⟩, _, _, _, _, _, _⟩ := row6_cells n1
  have D1 := D.out w1 B1
  have HB1 : Hid (Below w.heap.size w w1) := B1
  clear n1 B1 D HX
  simp only []
  go_wp2_with fail
  refine D1.mono ?_
  rintro e w2 ⟨p, m, c, rfl, hm, hbin, hp, hb2⟩
  have cv1 := bin_conv (P := Tryd.prog) (w := w2) Tryd.underlying62 Tryd.underlying5 Tryd.underlying9 hbin hm c
  have HB2 : Hid (Below w.heap.size w w2) := below_more HB1.out hb2
  have HN : Hid (numsOf (strOf Wl) = Wl) := nums_strOf hbin.2
  have hsz : (strOf Wl).size = Wl.length := by rw [← numsOf_len, HN.out]
  have hsI : ((strOf Wl).size : Int) = (Wl.length : Int) := by rw [hsz]
  clear D1 y0 y1 y2 y3 y4 y5 hm hbin hp hb2
  simp only []
  by_cases hlong : 16384 < Wl.length
  · have hl1 : 16384 < (Wl.length : Int) := by omega
    have HQ : Hid (16384 < Wl.length) := hlong
    clear hlong
    go_wp2_with fail
    go_ret2
    refine ⟨_, 3, rfl, HB2.out, fun h0 => absurd HE.out h0, fun _ => ⟨fun _ => ⟨rfl, rfl⟩, fun h9 => ?_⟩⟩
    rw [HW.out] at h9
    have := HQ.out
    omega
  · have hl1 : ¬ 16384 < (Wl.length : Int) := by omega
    have HQ : Hid (¬ 16384 < Wl.length) := hlong
    clear hlong
    go_wp2_with fail
    go_ret2
    refine ⟨_, 0, rfl, HB2.out, fun h0 => absurd HE.out h0, fun _ => ⟨fun h9 => ?_, fun _ => ⟨rfl, ?_⟩⟩⟩
    · rw [HW.out] at h9
      have := HQ.out
      omega
    · rw [HW.out, HN.out]
end Go.Proofs.YtblnoekogdpolaaDoor
