/-
  The law FreshNames walked.
-/
import Derived.Test.YtbeoijlkhpbdjaaDoorJ05
import Derived.Test.YtbeoijlkhpbdjaaDoorJ02
import Derived.Test.YtbeoijlkhpbdjaaDoorJ03
namespace Go.Proofs.YtbeoijlkhpbdjaaDoor
open Go.RowKit Go.WideShapes

theorem findL_bad {l : List EntV} (h : checkE l ≠ 0) (key : ByteArray) (seq : Int) : findL l key seq = (zeroE, false, checkE l) := by unfold findL; rw [if_pos h]
set_option maxRecDepth 8000 in
set_option maxHeartbeats 2000000 in
theorem find_any (q : Option Addr) (n c : Nat) (l : List EntV) (key : ByteArray) (seq : Int) (w : World) (h : EntsL w q n l) (y : EntV) (is : Bool) (E : Nat) (hR : findL l key seq = (y, is, E)) :
    Calls Tryd.prog 9 #[.slice q n c, .string key, .int .i64 seq] w fun e w' => e = .returned (.tuple #[entV y, .bool is, .int .i64 (E : Int)]) ∧ Below w.heap.size w w' := by
  have HQ : Hid (EntsIn w q l) := h.lies
  have HN : Hid (n = l.length) := h.n
  obtain ⟨C, hC⟩ : ∃ C, checkE l = C := ⟨_, rfl⟩
  obtain ⟨O, hO⟩ : ∃ O, oneE (askE key seq) = O := ⟨_, rfl⟩
  obtain ⟨k, hk⟩ : ∃ k, placeE l (askE key seq) = k := ⟨_, rfl⟩
  have HKN : Hid (k ≤ n) := by have := placeE_le l (askE key seq); show _ ≤ _; have h2 := h.n; omega
  have HCK := fun w' hb => fCheck_any q n c l w' (h.below hb) C hC
  have H1 := fun w' => checkOne_any (askE key seq) w' O hO
  have HCA := fun w' (hb : Below w.heap.size w w') (h0 : Hid (C = 0)) => countAhead_any q n c l (askE key seq) w' (h.below hb) ((checkE_rise l).1 (hC.trans h0.out)).2.2 ((checkE_rise l).1 (hC.trans h0.out)).1 k hk
  have HLE4 : Hid (C = 0 → n ≤ 4096) := fun h0 => by have := ((checkE_rise l).1 (hC.trans h0)).1; have h2 := h.n; omega
  rw [show entV (askE key seq) = .agg #[.string key, .string ⟨#[]⟩, .int .i64 seq, .bool false] from rfl] at H1 HCA
  have HR : Hid ((if C ≠ 0 then (zeroE, false, C) else if O ≠ 0 then (zeroE, false, O) else if k < n ∧ (l.getD k zeroE).key = key then (l.getD k zeroE, true, 0) else (zeroE, false, 0)) = (y, is, E)) := by
    show _ = _
    rw [← hR]
    by_cases h0 : C = 0
    · rw [if_neg (by simp [h0]), findL_ask (hC.trans h0), hO, hk, ← h.n]
    · rw [if_pos h0, findL_bad (by rw [hC]; exact h0), hC]
  clear h hC hO hk hR
  go_enter Tryd.func9, Tryd.ntmps9
  go_wp2_with fail
  refine (HCK _ (below_alloc _ _)).mono ?_
  rintro e w2 ⟨rfl, hb2⟩
  have HB2 : Hid (Below w.heap.size w w2) := below_bt (below_alloc _ _) hb2
  have HR2 : Hid (w2.heap[w.heap.size]? = some (.cells #[.string ⟨#[]⟩, .string ⟨#[]⟩, .int .i64 0, .bool false] 23 (0, 0))) := block_below' (heap_alloc_new _ _) hb2
  clear hb2 HCK
  rcases Nat.eq_zero_or_pos C with h0 | h0
  · have HC0 : Hid (C = 0) := h0
    subst h0
    have HNW : Hid (Below w.heap.size w (w2.alloc (.cells #[.string key, .string ⟨#[]⟩, .int .i64 seq, .bool false] 23)) ∧ (w2.alloc (.cells #[.string key, .string ⟨#[]⟩, .int .i64 seq, .bool false] 23)).heap[w.heap.size]? = some (.cells #[.string ⟨#[]⟩, .string ⟨#[]⟩, .int .i64 0, .bool false] 23 (0, 0)) ∧ (w2.alloc (.cells #[.string key, .string ⟨#[]⟩, .int .i64 seq, .bool false] 23)).heap[w2.heap.size]? = some (.cells #[.string key, .string ⟨#[]⟩, .int .i64 seq, .bool false] 23 (0, 0))) := ⟨below_bt HB2.out (below_alloc _ _), block_below' HR2.out (below_alloc _ _), heap_alloc_new _ _⟩
    go_wp2_with fail
    refine (H1 _).mono ?_
    rintro e w3 ⟨rfl, hb3⟩
    have HB3 : Hid (Below w.heap.size w w3) := below_bt HNW.out.1 hb3
    have HR3 : Hid (w3.heap[w.heap.size]? = some (.cells #[.string ⟨#[]⟩, .string ⟨#[]⟩, .int .i64 0, .bool false] 23 (0, 0))) := block_below' HNW.out.2.1 hb3
    have HX3 : Hid (w3.heap[w2.heap.size]? = some (.cells #[.string key, .string ⟨#[]⟩, .int .i64 seq, .bool false] 23 (0, 0))) := block_below' HNW.out.2.2 hb3
    clear hb3 H1 HNW
    rcases Nat.eq_zero_or_pos O with h0 | h0
    · subst h0
      obtain ⟨x0, x1, x2, x3⟩ := four_cells HX3.out
      have hca := HCA w3 HB3.out HC0
      clear HCA
      go_wp2_with fail
      refine hca.mono ?_
      rintro e w4 ⟨rfl, hb4⟩
      have HB4 : Hid (Below w.heap.size w w4) := below_bt HB3.out hb4
      have HR4 : Hid (w4.heap[w.heap.size]? = some (.cells #[.string ⟨#[]⟩, .string ⟨#[]⟩, .int .i64 0, .bool false] 23 (0, 0))) := block_below' HR3.out hb4
      clear hb4 hca x0 x1 x2 x3
      obtain ⟨⟨z0, z1, z2, z3⟩, f0, f1, f2, f3⟩ := four HR4.out
      have kb0 : (0 : Int) ≤ (k : Int) := by omega
      by_cases hkn : k < n
      · have hkI : (k : Int) < (n : Int) := by omega
        have hkE : ((k : Int) == (n : Int)) = false := by simp; omega
        have hkE' : (k == n) = false := by simp; omega
        obtain ⟨b, o, rfl⟩ := HQ.out.addr (by have := HN.out; omega)
        obtain ⟨y0, y1, y2, y3⟩ := (HQ.out.below HB4.out).at (k := k) (by have := HN.out; omega)
        obtain ⟨mE, hm⟩ : ∃ mE, l.getD k zeroE = mE := ⟨_, rfl⟩
        rw [hm] at y0 y1 y2 y3
        have HM : Hid (l.getD k zeroE = mE) := hm
        have HKL : Hid (k < n) := hkn
        clear hm hkn
        obtain ⟨kx, vx, sx, gx⟩ := mE
        simp only at y0 y1 y2 y3
        cases hq : (kx.toList == key.toList) with
        | true =>
          have HKE : Hid (kx = key) := by show _ = _; rw [eq_str] at hq; exact of_decide_eq_true hq
          go_wp2
          (try simp only [Exit.inBlock, Exit.then])
          refine bodyPost_ret (v := .tuple #[entV ⟨kx, vx, sx, gx⟩, .bool true, .int .i64 0]) ?_ rfl ⟨by
            have h := HR.out
            rw [if_neg (by simp), if_neg (by simp), if_pos ⟨HKL.out, by rw [HM.out]; exact HKE.out⟩, HM.out] at h
            obtain ⟨rfl, rfl, rfl⟩ := (show (⟨kx, vx, sx, gx⟩ : EntV) = y ∧ true = is ∧ 0 = E from ⟨(Prod.mk.inj h).1, (Prod.mk.inj (Prod.mk.inj h).2).1, (Prod.mk.inj (Prod.mk.inj h).2).2⟩)
            rfl, ?_⟩
          · rw [results_cell_tmp2 rfl]
            go_simp
            rfl
          · exact set4_at HB4.out (Nat.le_refl _)
        | false =>
          have HKE : Hid (kx ≠ key) := by show _ ≠ _; rw [eq_str] at hq; exact of_decide_eq_false hq
          go_wp2
          (try simp only [Exit.inBlock, Exit.then])
          refine bodyPost_ret (v := .tuple #[entV zeroE, .bool false, .int .i64 0]) ?_ rfl ⟨by
            have h := HR.out
            rw [if_neg (by simp), if_neg (by simp), if_neg (fun hc => by have := hc.2; rw [HM.out] at this; exact HKE.out this)] at h
            obtain ⟨rfl, rfl, rfl⟩ := (show zeroE = y ∧ false = is ∧ 0 = E from ⟨(Prod.mk.inj h).1, (Prod.mk.inj (Prod.mk.inj h).2).1, (Prod.mk.inj (Prod.mk.inj h).2).2⟩)
            rfl, ?_⟩
          · rw [results_cell_tmp2 rfl]
            go_simp
            rfl
          · exact set4_at HB4.out (Nat.le_refl _)
      · have HKE : Hid (k = n) := by have := HKN.out; show _ = _; omega
        have hkE : ((k : Int) == (n : Int)) = true := by have := HKN.out; simp; omega
        have hkE' : (k == n) = true := by have := HKN.out; simp; omega
        clear hkn
        go_wp2
        (try simp only [Exit.inBlock, Exit.then])
        refine bodyPost_ret (v := .tuple #[entV zeroE, .bool false, .int .i64 0]) ?_ rfl ⟨by
          have h := HR.out
          rw [if_neg (by simp), if_neg (by simp), if_neg (fun hc => by have := hc.1; have := HKE.out; omega)] at h
          obtain ⟨rfl, rfl, rfl⟩ := (show zeroE = y ∧ false = is ∧ 0 = E from ⟨(Prod.mk.inj h).1, (Prod.mk.inj (Prod.mk.inj h).2).1, (Prod.mk.inj (Prod.mk.inj h).2).2⟩)
          rfl, ?_⟩
        · rw [results_cell_tmp2 rfl]
          go_simp
          rfl
        · exact set4_at HB4.out (Nat.le_refl _)
    · have hO1 : ((O : Int) == 0) = false := by simp; omega
      have HOp : Hid (O ≠ 0) := by show _ ≠ _; omega
      obtain ⟨⟨z0, z1, z2, z3⟩, f0, f1, f2, f3⟩ := four HR3.out
      clear h0
      go_wp2
      (try simp only [Exit.inBlock, Exit.then])
      refine bodyPost_ret (v := .tuple #[entV zeroE, .bool false, .int .i64 (O : Int)]) ?_ rfl ⟨by
        have h := HR.out
        rw [if_neg (by simp), if_pos HOp.out] at h
        obtain ⟨rfl, rfl, rfl⟩ := (show zeroE = y ∧ false = is ∧ O = E from ⟨(Prod.mk.inj h).1, (Prod.mk.inj (Prod.mk.inj h).2).1, (Prod.mk.inj (Prod.mk.inj h).2).2⟩)
        rfl, ?_⟩
      · rw [results_cell_tmp2 rfl]
        go_simp
        rfl
      · exact set4_at HB3.out (Nat.le_refl _)
  · have hO1 : ((C : Int) == 0) = false := by simp; omega
    have HOp : Hid (C ≠ 0) := by show _ ≠ _; omega
    obtain ⟨⟨z0, z1, z2, z3⟩, f0, f1, f2, f3⟩ := four HR2.out
    clear h0
    go_wp2
    (try simp only [Exit.inBlock, Exit.then])
    refine bodyPost_ret (v := .tuple #[entV zeroE, .bool false, .int .i64 (C : Int)]) ?_ rfl ⟨by
      have h := HR.out
      rw [if_pos HOp.out] at h
      obtain ⟨rfl, rfl, rfl⟩ := (show zeroE = y ∧ false = is ∧ C = E from ⟨(Prod.mk.inj h).1, (Prod.mk.inj (Prod.mk.inj h).2).1, (Prod.mk.inj (Prod.mk.inj h).2).2⟩)
      rfl, ?_⟩
    · rw [results_cell_tmp2 rfl]
      go_simp
      rfl
    · exact set4_at HB2.out (Nat.le_refl _)
end Go.Proofs.YtbeoijlkhpbdjaaDoor
namespace Go.Proofs.YtbeoijlkhpbdjaaDoor
open Go.RowKit Go.WideShapes

theorem of_any (k : ByteArray) (s : Int) (w : World) : Calls Tryd.prog 8 #[.string k, .int .i64 s] w fun e w' => e = .returned (.agg #[.string k, .string ⟨#[]⟩, .int .i64 s, .bool false]) ∧ Below w.heap.size w w' := by
  go_enter Tryd.func8, Tryd.ntmps8
  go_wp2
  (try simp only [Exit.inBlock, Exit.then])
  refine bodyPost_ret (v := .agg #[.string k, .string ⟨#[]⟩, .int .i64 s, .bool false]) ?_ rfl ⟨rfl, ?_⟩
  · rw [results_cell1 rfl]
    go_simp
    try rfl
  · exact below_alloc _ _
def eA (s : Int) : EntV := ⟨⟨#[97]⟩, ByteArray.empty, s, false⟩
theorem eA_v (s : Int) : entV (eA s) = .agg #[.string ⟨#[97]⟩, .string ⟨#[]⟩, .int .i64 s, .bool false] := rfl
theorem eA_ok {s : Int} (h0 : 0 ≤ s) (h1 : s ≤ 2147483647) : OkE (eA s) := ⟨by show 1 ≤ 1; omega, by show 1 ≤ 256; omega, by show 0 ≤ 4096; omega, h0, h1, fun h => by cases h⟩
theorem eA_less {s t : Int} : lessE (eA s) (eA t) = decide (t < s) := by
  cases h : lessE (eA s) (eA t) with
  | true =>
    rcases (lessE_def _ _).1 h with h1 | h1
    · rw [show (eA s).key = (eA t).key from rfl, ltB_irrefl] at h1; cases h1
    · exact (decide_eq_true h1.2).symm
  | false =>
    refine (decide_eq_false fun hc => ?_).symm
    rw [(lessE_def (eA s) (eA t)).2 (.inr ⟨rfl, hc⟩)] at h
    cases h
theorem check_one {s : Int} (h0 : 0 ≤ s) (h1 : s ≤ 2147483647) : checkE [eA s] = 0 := by rw [checkE_one]; exact oneE_ok.2 (eA_ok h0 h1)
theorem check_two {s t : Int} (h0 : 0 ≤ s) (h1 : s ≤ 2147483647) (h2 : 0 ≤ t) (h3 : t ≤ 2147483647) (h : t < s) : checkE [eA s, eA t] = 0 := by
  refine (checkE_rise _).2 ⟨by simp, fun x hx => ?_, ?_⟩
  · simp only [List.mem_cons, List.not_mem_nil, or_false] at hx
    rcases hx with rfl | rfl
    · exact eA_ok h0 h1
    · exact eA_ok h2 h3
  · refine List.pairwise_cons.2 ⟨fun x hx => ?_, List.pairwise_cons.2 ⟨fun x hx => by simp at hx, List.Pairwise.nil⟩⟩
    rw [List.mem_singleton.1 hx, eA_less]
    exact decide_eq_true h
theorem put_a : putE [eA 1] (eA 2) = ([eA 2, eA 1], 0) := by
  have hp : placeE [eA 1] (eA 2) = 0 := by simp only [placeE, eA_less]; rfl
  rw [putE_is (check_one (by omega) (by omega)) (oneE_ok.2 (eA_ok (by omega) (by omega))) ?_ (by simp)]
  · unfold insE; rw [hp]; rfl
  · rintro ⟨y, hy, h1, h2⟩
    rw [List.mem_singleton.1 hy] at h2
    have : (1 : Int) = 2 := h2
    omega
theorem find_a {s t : Int} (h0 : 0 ≤ s) (h1 : s ≤ 2147483647) (h2 : 0 ≤ t) (h3 : t ≤ 2147483647) (h : t < s) : findL [eA s, eA t] ⟨#[97]⟩ t = (eA t, true, 0) ∧ findL [eA s, eA t] ⟨#[97]⟩ s = (eA s, true, 0) := by
  have hc := check_two h0 h1 h2 h3 h
  have hr := ((checkE_rise _).1 hc).2.2
  unfold findL
  rw [if_neg (by simp [hc]), if_neg (by show ¬ (1 < 1 ∨ 256 < 1); omega), if_neg (by omega), if_neg (by simp [hc]), if_neg (by show ¬ (1 < 1 ∨ 256 < 1); omega), if_neg (by omega)]
  constructor
  · rw [newL_is hr (k := ⟨#[97]⟩) (s := t) (y := eA t) (by simp) rfl (Int.le_refl _) (fun z hz hk hs => hs)]
  · rw [newL_is hr (k := ⟨#[97]⟩) (s := s) (y := eA s) (by simp) rfl (Int.le_refl _) (fun z hz hk hs => hs)]
set_option maxRecDepth 8000 in
set_option maxHeartbeats 2000000 in
theorem alive_any (w : World) : Calls Tryd.prog 13 #[] w fun e w' => e = .returned (.bool true) ∧ Below w.heap.size w w' := by
  have HO := fun k s w' => of_any k s w'
  have HP := fun w' q h => put_any q 1 1 [eA 1] (eA 2) w' h (Nat.le_refl _) 
  have HF := fun w' q c h => find_any q 2 c [eA 2, eA 1] ⟨#[97]⟩ 1 w' h (eA 1) true 0 (find_a (by omega) (by omega) (by omega) (by omega) (by omega)).1
  go_enter Tryd.func13, Tryd.ntmps13
  go_wp2_with fail
  refine (HO _ _ _).mono ?_
  rintro e w1 ⟨rfl, hb1⟩
  have HB1 : Hid (Below w.heap.size w w1) := hb1
  clear hb1
  go_wp2_with fail
  refine (HO _ _ _).mono ?_
  rintro e w2 ⟨rfl, hb2⟩
  have hg := block_below' (heap_alloc_new w1 (.cells #[.string ⟨#[97]⟩, .string ⟨#[]⟩, .int .i64 1, .bool false] 23)) hb2
  have HB2 : Hid (Below w.heap.size w w2) := below_bt (below_bt HB1.out (below_alloc _ _)) hb2
  have hp := HP w2 (some ⟨w1.heap.size, 0, none⟩) (ents_box (x := eA 1) hg) (fun h => by cases h) [eA 2, eA 1] 0 put_a
  rw [eA_v] at hp
  clear hb2 hg HO HP
  go_wp2_with fail
  refine hp.mono ?_
  rintro e w3 ⟨⟨uq, uc, rfl, hown⟩, hb3⟩
  have HB3 : Hid (Below w.heap.size w w3) := below_bt HB2.out hb3
  have hin := hown.ents
  have HIN : Hid (EntsIn w3 uq [eA 2, eA 1]) := hin
  have hf := HF w3 uq uc ⟨rfl, hin⟩
  rw [eA_v] at hf
  rw [show [eA 2, eA 1].length = 2 from rfl]
  clear hb3 hown hp HF hin
  go_wp2_with fail
  refine hf.mono ?_
  rintro e w4 ⟨rfl, hb4⟩
  have HB4 : Hid (Below w.heap.size w w4) := below_bt HB3.out hb4
  have bx := below_alloc w4 (.cells #[.string ⟨#[97]⟩, .string ⟨#[]⟩, .int .i64 1, .bool false] 23)
  have hin4 := (HIN.out.below hb4).below bx
  obtain ⟨b, o, rfl⟩ := hin4.addr (by simp)
  obtain ⟨y0, y1, y2, y3⟩ := hin4.at (k := 0) (by simp)
  have y2' : (w4.alloc (.cells #[.string ⟨#[97]⟩, .string ⟨#[]⟩, .int .i64 1, .bool false] 23)).cell? ⟨b, o + 2, none⟩ = some (.int .i64 2) := by
    rw [Nat.zero_mul, Nat.add_zero] at y2; exact y2
  clear hb4 hf hin4 y0 y1 y2 y3 bx
  go_wp2
  go_ret
  exact ⟨rfl, below_bt HB4.out (below_alloc _ _)⟩
end Go.Proofs.YtbeoijlkhpbdjaaDoor
namespace Go.Proofs.YtbeoijlkhpbdjaaDoor
open Go.RowKit Go.WideShapes


/-- The lowest k bytes of a number. -/
def putK : Nat → Nat → List Nat
  | 0, _ => []
  | k + 1, m => (m % 256) :: putK k (m / 256)
theorem putK_8 (n : Nat) (h : n < 18446744073709551616) : putK 8 n = putN n := by
  simp only [putK, putN, Nat.div_div_eq_div_mul, Nat.reduceMul]
  have : n / 72057594037927936 % 256 = n / 72057594037927936 := by omega
  rw [this]
theorem putK_step (k m : Nat) (h : k < 8) : putK (8 - k) m = (m % 256) :: putK (8 - (k + 1)) (m / 256) := by
  rw [show 8 - k = (8 - (k + 1)) + 1 from by omega]; rfl

theorem ret_two {a b : Int} {k1 k2 : IntKind} {c : Int} (h : a = b) : Ending.returned (.tuple #[.int k1 a, .int k2 c]) = .returned (.tuple #[.int k1 b, .int k2 c]) := by rw [h]
end Go.Proofs.YtbeoijlkhpbdjaaDoor
namespace Go.Proofs.YtbeoijlkhpbdjaaDoor
open Go.RowKit Go.WideShapes

theorem bl_irrefl : ∀ (a : List UInt8), Op.bytesLess a a = false
  | [] => rfl
  | x :: a => by
    unfold Op.bytesLess
    simp [UInt8.lt_irrefl x, bl_irrefl a]
set_option maxHeartbeats 1000000 in
theorem rless_any (a b : EntV) (w : World) : Calls Tryd.prog 33 #[entV a, entV b] w fun e w' => e = .returned (.bool (lessE a b)) ∧ Below w.heap.size w w' := by
  obtain ⟨ak, av, az, ag⟩ := a
  obtain ⟨bk, bv, bz, bg⟩ := b
  rw [entV_def, entV_def]
  obtain ⟨r, hr⟩ : ∃ r, lessE ⟨ak, av, az, ag⟩ ⟨bk, bv, bz, bg⟩ = r := ⟨_, rfl⟩
  rw [hr]
  unfold lessE at hr
  simp only at hr
  by_cases h2 : ak = bk
  · subst h2
    have HR : Hid (r = decide (bz < az)) := by show _ = _; rw [← hr, bl_irrefl]; simp
    clear hr
    go_enter Tryd.func33, Tryd.ntmps33
    go_wp2
    go_ret
    exact ⟨by rw [HR.out]; rfl, (below_alloc w _).alloc (by simp) _⟩
  · have h2' : (ak.toList == bk.toList) = false := by rw [eq_str]; simp [h2]
    have HR : Hid (r = Op.bytesLess ak.toList bk.toList) := by show _ = _; rw [← hr, h2']; simp
    clear hr h2
    go_enter Tryd.func33, Tryd.ntmps33
    go_wp2
    go_ret
    exact ⟨by rw [HR.out]; rfl, (below_alloc w _).alloc (by simp) _⟩
set_option maxHeartbeats 2000000 in
theorem rone_any (x : EntV) (w : World) (E : Nat) (hE : oneE x = E) : Calls Tryd.prog 32 #[entV x] w fun e w' => e = .returned (.int .i64 (E : Int)) ∧ Below w.heap.size w w' := by
  obtain ⟨k, v, s, g⟩ := x
  rw [entV_def]
  unfold oneE at hE
  simp only at hE
  by_cases h1 : k.size < 1
  · rw [if_pos (.inl h1)] at hE
    subst hE
    have q1 : (k.size : Int) < 1 := by omega
    clear h1
    go_enter Tryd.func32, Tryd.ntmps32
    go_wp2
    go_ret
    exact ⟨rfl, below_alloc _ _⟩
  · have q1 : (1 : Int) ≤ (k.size : Int) := by omega
    by_cases h2 : 256 < k.size
    · rw [if_pos (.inr h2)] at hE
      subst hE
      have q2 : (256 : Int) < (k.size : Int) := by omega
      clear h1 h2
      go_enter Tryd.func32, Tryd.ntmps32
      go_wp2
      go_ret
      exact ⟨rfl, below_alloc _ _⟩
    · rw [if_neg (by omega)] at hE
      have q2 : (k.size : Int) ≤ 256 := by omega
      clear h1 h2
      by_cases h3 : 4096 < v.size
      · rw [if_pos h3] at hE
        subst hE
        have q3 : (4096 : Int) < (v.size : Int) := by omega
        clear h3
        go_enter Tryd.func32, Tryd.ntmps32
        go_wp2
        go_ret
        exact ⟨rfl, below_alloc _ _⟩
      · rw [if_neg h3] at hE
        have q3 : (v.size : Int) ≤ 4096 := by omega
        clear h3
        by_cases h4 : s < 0
        · rw [if_pos (.inl h4)] at hE
          subst hE
          go_enter Tryd.func32, Tryd.ntmps32
          go_wp2
          go_ret
          exact ⟨rfl, below_alloc _ _⟩
        · by_cases h5 : 2147483647 < s
          · rw [if_pos (.inr h5)] at hE
            subst hE
            have q4 : 0 ≤ s := by omega
            clear h4
            go_enter Tryd.func32, Tryd.ntmps32
            go_wp2
            go_ret
            exact ⟨rfl, below_alloc _ _⟩
          · rw [if_neg (by omega)] at hE
            have q4 : 0 ≤ s := by omega
            have q5 : s ≤ 2147483647 := by omega
            clear h4 h5
            cases g with
            | false =>
              rw [if_neg (by simp)] at hE
              subst hE
              go_enter Tryd.func32, Tryd.ntmps32
              go_wp2
              go_ret
              exact ⟨rfl, below_alloc _ _⟩
            | true =>
              by_cases h6 : v = ByteArray.empty
              · rw [if_neg (by simp [h6])] at hE
                subst hE h6
                go_enter Tryd.func32, Tryd.ntmps32
                go_wp2
                go_ret
                exact ⟨rfl, below_alloc _ _⟩
              · rw [if_pos ⟨rfl, h6⟩] at hE
                subst hE
                have g5' : v.toList.isEmpty = false := nonempty_of h6
                clear h6
                go_enter Tryd.func32, Tryd.ntmps32
                go_wp2
                go_ret
                exact ⟨rfl, below_alloc _ _⟩
set_option maxRecDepth 8000 in
set_option maxHeartbeats 1000000 in
theorem rsame_yes (qa qb : Option Addr) (n ca cb : Nat) (l : List EntV) (w : World) (hn : n = l.length) (hnb : (n : Int) ≤ 1000000) (ha : EntsIn w qa l) (hb : EntsIn w qb l) :
    Calls Tryd.prog 18 #[.slice qa n ca, .slice qb n cb] w fun e w' => e = .returned (.bool true) ∧ Below w.heap.size w w' := by
  have HA : Hid (EntsIn w qa l) := ha
  have HB : Hid (EntsIn w qb l) := hb
  have HN : Hid (n = l.length) := hn
  clear ha hb hn
  go_enter Tryd.func18, Tryd.ntmps18
  go_wp2
  go_loopw [5] (fun i wr => ∃ k : Nat, k ≤ n ∧ i = .int .i64 k ∧ Below w.heap.size w wr) (fun i _ => n - (intOf i).toNat)
  case atStart => exact ⟨0, by omega, rfl, Below.refl _ _⟩
  case round =>
    obtain ⟨k, hk, rfl, hbel⟩ := hrel
    have HBE : Hid (Below w.heap.size w wr) := hbel
    clear hbel
    by_cases hkn : k < n
    · have g1 : decide (k < n) = true := decide_eq_true hkn
      have hkI : (k : Int) < (n : Int) := by omega
      obtain ⟨ba, oa, rfl⟩ := HA.out.addr (by have := HN.out; omega)
      obtain ⟨bb, ob, rfl⟩ := HB.out.addr (by have := HN.out; omega)
      obtain ⟨x, hx⟩ : ∃ x, l.getD k zeroE = x := ⟨_, rfl⟩
      obtain ⟨x0, x1, x2, x3⟩ := (HA.out.below HBE.out).at (k := k) (by have := HN.out; omega)
      obtain ⟨y0, y1, y2, y3⟩ := (HB.out.below HBE.out).at (k := k) (by have := HN.out; omega)
      rw [hx] at x0 x1 x2 x3 y0 y1 y2 y3
      obtain ⟨kx, vx, sx, gx⟩ := x
      simp only at x0 x1 x2 x3 y0 y1 y2 y3
      clear hx
      go_wp2
      go_quiet (fail)
      go_wp2
      go_roundw
      case rel => exact ⟨k + 1, by omega, by go_num, below_drewN HBE.out _⟩
      case measure => simp [intOf]; omega
    · have g1 : decide (k < n) = false := decide_eq_false hkn
      have hkI : (n : Int) ≤ (k : Int) := by omega
      go_wp2
      go_ret
      exact ⟨rfl, HBE.out⟩
end Go.Proofs.YtbeoijlkhpbdjaaDoor
namespace Go.Proofs.YtbeoijlkhpbdjaaDoor
open Go.RowKit Go.WideShapes

set_option maxRecDepth 8000 in
set_option maxHeartbeats 4000000 in
theorem rCheck_any (q : Option Addr) (n c : Nat) (l : List EntV) (w : World) (h : EntsL w q n l) (C : Nat) (hC : checkE l = C) :
    Calls Tryd.prog 31 #[.slice q n c] w fun e w' => e = .returned (.int .i64 (C : Int)) ∧ Below w.heap.size w w' := by
  unfold checkE at hC
  have HN : Hid (n = l.length) := h.n
  by_cases hl : 4096 < l.length
  · rw [if_pos hl] at hC
    subst hC
    have g1 : (4096 : Int) < (n : Int) := by have := h.n; omega
    clear hl h
    go_enter Tryd.func31, Tryd.ntmps31
    go_wp2
    go_ret
    exact ⟨rfl, Below.refl _ _⟩
  rw [if_neg hl] at hC
  have g1 : (n : Int) ≤ 4096 := by have := h.n; omega
  have HQ : Hid (EntsIn w q l) := h.lies
  have HC : Hid (checkF (prevE l 0) (l.drop 0) = C) := hC
  clear hC h hl
  go_enter Tryd.func31, Tryd.ntmps31
  go_wp2
  go_loopw [3] (fun i wr => ∃ k : Nat, k ≤ n ∧ i = .int .i64 k ∧ checkF (prevE l k) (l.drop k) = C ∧ Below w.heap.size w wr) (fun i _ => n - (intOf i).toNat)
  case atStart => exact ⟨0, by omega, rfl, HC.out, Below.refl _ _⟩
  case round =>
    obtain ⟨k, hk, rfl, hs, hbel⟩ := hrel
    have HK : Hid (checkF (prevE l k) (l.drop k) = C) := hs
    have HB : Hid (Below w.heap.size w wr) := hbel
    clear hs hbel
    by_cases hkl : k < n
    · have g9 : decide (k < n) = true := decide_eq_true hkl
      have hkl' : k < l.length := by have := HN.out; omega
      obtain ⟨b, o, rfl⟩ := HQ.out.addr (by omega)
      have HQ2 := (HQ.out.below HB.out)
      obtain ⟨e0, e1, e2, e3⟩ := HQ2.at hkl'
      obtain ⟨y, hy⟩ : ∃ y, l.getD k zeroE = y := ⟨_, rfl⟩
      rw [hy] at e0 e1 e2 e3
      have HY : Hid (l.getD k zeroE = y) := hy
      obtain ⟨ke, ve, se, ge⟩ := y
      simp only at e0 e1 e2 e3
      obtain ⟨E, hE⟩ : ∃ E, oneE ⟨ke, ve, se, ge⟩ = E := ⟨_, rfl⟩
      have HE : Hid (oneE ⟨ke, ve, se, ge⟩ = E) := hE
      have HCE := fun w' => rone_any ⟨ke, ve, se, ge⟩ w' E hE
      rw [entV_def] at HCE
      have HBX : Hid (C4 wr b (o + k * 4) (.string ke) (.string ve) (.int .i64 se) (.bool ge)) := ⟨e0, e1, e2, e3⟩
      have hkn : (k : Int) < (n : Int) := by omega
      have HKL : Hid (k < l.length) := hkl'
      clear hE hy hkl'
      rcases Nat.eq_zero_or_pos E with hE0 | hE0
      · subst hE0
        rcases k with _ | k
        · have H2 : Hid (checkF (prevE l 1) (l.drop 1) = C) := by show _ = _; rw [← checkF_zero HKL.out HY.out HE.out]; exact HK.out
          clear HQ2
          simp only [Nat.zero_mul, Nat.add_zero] at e0 e1 e2 e3
          go_wp2_with fail
          refine (HCE _).mono ?_
          rintro e w2 ⟨rfl, hb2⟩
          have HB2 : Hid (Below w.heap.size w w2) := below_bt HB.out hb2
          clear hb2 HCE HBX
          go_wp2
          go_quiet (fail)
          go_wp2
          go_roundw
          case rel => exact ⟨1, by omega, by go_num, H2.out, below_drewN HB2.out _⟩
          case measure => simp [intOf]; omega
        · obtain ⟨x, hx⟩ : ∃ x, l.getD k zeroE = x := ⟨_, rfl⟩
          obtain ⟨kx, vx, sx, gx⟩ := x
          have h4 := HQ2.at (k := k) (by have := HKL.out; omega)
          rw [hx] at h4
          have HP : Hid (C4 wr b (o + k * 4) (.string kx) (.string vx) (.int .i64 sx) (.bool gx)) := h4
          have HNX := checkF_next HKL.out hx HY.out HE.out
          obtain ⟨r, hr⟩ : ∃ r, lessE ⟨kx, vx, sx, gx⟩ ⟨ke, ve, se, ge⟩ = r := ⟨_, rfl⟩
          have HLE := fun w' => rless_any ⟨kx, vx, sx, gx⟩ ⟨ke, ve, se, ge⟩ w'
          rw [hr, entV_def, entV_def] at HLE
          rw [hr, HK.out] at HNX
          have HNX' : Hid (C = if r = true then checkF (prevE l (k + 2)) (l.drop (k + 2)) else 100) := HNX
          clear hx hr HQ2 h4 HNX
          go_wp2_with fail
          refine (HCE _).mono ?_
          rintro e w2 ⟨rfl, hb2⟩
          have HD : Hid (C4 w2 b (o + (k + 1) * 4) (.string ke) (.string ve) (.int .i64 se) (.bool ge)) := c4_below HBX.out hb2
          have HP2 : Hid (C4 w2 b (o + k * 4) (.string kx) (.string vx) (.int .i64 sx) (.bool gx)) := c4_below HP.out hb2
          have HB2 : Hid (Below w.heap.size w w2) := below_bt HB.out hb2
          clear hb2 HCE HBX HP
          have kw0 : IntKind.i64.wrap (k : Int) = (k : Int) := by rw [IntKind.wrap_i64]; omega
          have kw1 : IntKind.i64.wrap ((k : Int) + 1 - 1) = (k : Int) := by rw [IntKind.wrap_i64]; omega
          have kw2 : IntKind.i64.wrap (((k + 1 : Nat) : Int) - 1) = (k : Int) := by rw [IntKind.wrap_i64]; omega
          have kb0 : (0 : Int) ≤ (k : Int) := by omega
          have kb2 : (0 : Int) ≤ (k : Int) + 1 := by omega
          have kb3 : (k : Int) + 1 < (n : Int) := by omega
          have kb4 : ((k : Int) + 1).toNat = k + 1 := by omega
          have kb1 : (k : Int) < (n : Int) := by omega
          go_wp2
          go_region_held3 (fun w' => (w'.cell? ⟨b, o + (k + 1) * 4, none⟩ = some (.string ke) ∧ w'.cell? ⟨b, o + (k + 1) * 4 + 1, none⟩ = some (.string ve) ∧ w'.cell? ⟨b, o + (k + 1) * 4 + 2, none⟩ = some (.int .i64 se) ∧ w'.cell? ⟨b, o + (k + 1) * 4 + 3, none⟩ = some (.bool ge)) ∧ (w'.cell? ⟨b, o + k * 4, none⟩ = some (.string kx) ∧ w'.cell? ⟨b, o + k * 4 + 1, none⟩ = some (.string vx) ∧ w'.cell? ⟨b, o + k * 4 + 2, none⟩ = some (.int .i64 sx) ∧ w'.cell? ⟨b, o + k * 4 + 3, none⟩ = some (.bool gx)) ∧ Below w2.heap.size w2 w')
            (with_reducible first | exact ⟨HD.out, HP2.out, Below.refl _ _⟩ | exact ⟨c4_below HD.out (Below.refl _ _).drew, c4_below HP2.out (Below.refl _ _).drew, (Below.refl _ _).drew⟩ | exact ⟨c4_below HD.out (below_dw (by assumption)), c4_below HP2.out (below_dw (by assumption)), below_dw (by assumption)⟩ | assumption)
            (first
              | (go_at_call 33; refine (HLE _).mono ?_; rintro e w3 ⟨rfl, hb3⟩)
              | fail)
          rename_i hh
          have HB3 : Hid (Below w.heap.size w w3) := below_bt HB2.out hh.2.2
          clear hh
          cases r with
          | true =>
            have H2 : Hid (checkF (prevE l (k + 2)) (l.drop (k + 2)) = C) := by have := HNX'.out; rw [if_pos rfl] at this; exact this.symm
            go_wp2
            go_roundw
            case rel => exact ⟨k + 2, by omega, by go_num, H2.out, HB3.out⟩
            case measure => simp [intOf]; omega
          | false =>
            have H2 : Hid (C = 100) := by have := HNX'.out; rw [if_neg (by simp)] at this; exact this
            go_wp2
            go_ret
            exact ⟨by rw [H2.out]; rfl, HB3.out⟩
      · have hne : ((E : Int) != 0) = true := by simp; omega
        have H2 : Hid (E = C) := by show _ = _; rw [← HK.out, checkF_one HKL.out HY.out (by rw [HE.out]; omega), HE.out]
        clear HQ2 hE0
        go_wp2_with fail
        refine (HCE _).mono ?_
        rintro e w2 ⟨rfl, hb2⟩
        have HB2 : Hid (Below w.heap.size w w2) := below_bt HB.out hb2
        clear hb2 HCE HBX
        go_wp2
        go_ret
        exact ⟨by rw [← H2.out]; rfl, HB2.out⟩
    · have g2 : (n : Int) ≤ (k : Int) := by omega
      have g9 : decide (k < n) = false := decide_eq_false hkl
      have H2 : Hid (C = 0) := by show _ = _; rw [← HK.out]; exact checkF_end l k (by have := HN.out; omega)
      go_wp2
      go_ret
      exact ⟨by rw [H2.out]; rfl, HB.out⟩
end Go.Proofs.YtbeoijlkhpbdjaaDoor
namespace Go.Proofs.YtbeoijlkhpbdjaaDoor
open Go.RowKit Go.WideShapes

abbrev zE : Array Value := #[.string ⟨#[]⟩, .string ⟨#[]⟩, .int .i64 0, .bool false]
set_option maxRecDepth 8000 in
set_option maxHeartbeats 2000000 in
theorem rNewest_any (q : Option Addr) (n c : Nat) (l : List EntV) (key : ByteArray) (seq : Int) (w : World) (h : EntsL w q n l) (hz : n ≤ 1000000) (y : EntV) (is : Bool) (hR : newL l key seq = (y, is)) :
    Calls Tryd.prog 34 #[.slice q n c, .string key, .int .i64 seq] w fun e w' => e = .returned (.tuple #[entV y, .bool is]) ∧ Below w.heap.size w w' := by
  have HE : Hid (EntsIn w q l ∧ n = l.length) := ⟨h.lies, h.n⟩
  have hzI : (n : Int) ≤ 1000000 := by omega
  have HR : Hid (newL (l.drop 0) key seq = (y, is)) := hR
  have HNW : Hid (Below w.heap.size w (w.alloc (.cells zE 23)) ∧ (w.alloc (.cells zE 23)).heap[w.heap.size]? = some (.cells zE 23 (0, 0))) := ⟨below_alloc _ _, heap_alloc_new _ _⟩
  clear h hR
  go_enter Tryd.func34, Tryd.ntmps34
  go_wp2
  go_loopw [8] (fun i wr => ∃ k : Nat, k ≤ n ∧ i = .int .i64 k ∧ newL (l.drop k) key seq = (y, is) ∧ Below w.heap.size w wr ∧ wr.heap[w.heap.size]? = some (.cells zE 23 (0, 0))) (fun i _ => n - (intOf i).toNat)
  case atStart => exact ⟨0, by omega, rfl, HR.out, HNW.out⟩
  case round =>
    obtain ⟨k, hk, rfl, hnew, hbel, hblk⟩ := hrel
    have HO : Hid (Below w.heap.size w wr ∧ wr.heap[w.heap.size]? = some (.cells zE 23 (0, 0))) := ⟨hbel, hblk⟩
    have HW : Hid (newL (l.drop k) key seq = (y, is)) := hnew
    obtain ⟨⟨z0, z1, z2, z3⟩, f0, f1, f2, f3⟩ := four hblk
    clear hbel hblk hnew HNW HR
    by_cases hkn : k < n
    · have hkI : (k : Int) < (n : Int) := by omega
      have hen := HE.out.1.below HO.out.1
      obtain ⟨be, oe, rfl⟩ := hen.addr (by have := HE.out.2; omega)
      obtain ⟨x0, x1, x2, x3⟩ := hen.at (k := k) (by have := HE.out.2; omega)
      obtain ⟨x, hx⟩ : ∃ x, l.getD k zeroE = x := ⟨_, rfl⟩
      rw [hx] at x0 x1 x2 x3
      have HNA := newL_at (l := l) (i := k) (by have := HE.out.2; omega) hx key seq
      obtain ⟨ke, ve, se, ge⟩ := x
      simp only at x0 x1 x2 x3
      have HNA' : Hid (newL (l.drop k) key seq = if ke = key ∧ se ≤ seq then (⟨ke, ve, se, ge⟩, true) else newL (l.drop (k + 1)) key seq) := HNA
      have HKN : Hid (k < n) := hkn
      clear hen hx HNA hkn
      by_cases hke : ke = key
      · have g4 : (ke.toList == key.toList) = true := by rw [eq_str]; simp [hke]
        by_cases hsq : se ≤ seq
        · have g5 : decide (se ≤ seq) = true := decide_eq_true hsq
          have HY : Hid (y = ⟨ke, ve, se, ge⟩ ∧ is = true) := by
            have := HW.out
            rw [HNA'.out, if_pos ⟨hke, hsq⟩] at this
            simp only [Prod.mk.injEq] at this
            exact ⟨this.1.symm, this.2.symm⟩
          clear hke
          go_wp2
          (try simp only [Exit.inBlock, Exit.then])
          refine bodyPost_ret (v := .tuple #[entV ⟨ke, ve, se, ge⟩, .bool true]) ?_ rfl ⟨by rw [HY.out.1, HY.out.2], ?_⟩
          · rw [results_cell_tmp rfl]
            go_simp
            rfl
          · exact set4_at HO.out.1 (Nat.le_refl _)
        · have g5 : decide (se ≤ seq) = false := decide_eq_false hsq
          have HN2 : Hid (newL (l.drop (k + 1)) key seq = (y, is)) := by
            have := HW.out
            rw [HNA'.out, if_neg (fun hh => hsq hh.2)] at this
            exact this
          clear hke hsq
          go_wp2
          go_roundw
          case rel => exact ⟨k + 1, by have := HKN.out; omega, by go_num, HN2.out, HO.out⟩
          case measure => have := HKN.out; simp [intOf]; omega
      · have g4 : (ke.toList == key.toList) = false := by rw [eq_str]; simp [hke]
        have HN2 : Hid (newL (l.drop (k + 1)) key seq = (y, is)) := by
          have := HW.out
          rw [HNA'.out, if_neg (fun hh => hke hh.1)] at this
          exact this
        clear hke
        go_wp2
        go_roundw
        case rel => exact ⟨k + 1, by have := HKN.out; omega, by go_num, HN2.out, HO.out⟩
        case measure => have := HKN.out; simp [intOf]; omega
    · have hkI : (n : Int) ≤ (k : Int) := by omega
      have HY : Hid (y = zeroE ∧ is = false) := by
        have := HW.out
        rw [List.drop_eq_nil_of_le (by have := HE.out.2; omega)] at this
        simp only [newL, Prod.mk.injEq] at this
        exact ⟨this.1.symm, this.2.symm⟩
      go_wp2
      (try simp only [Exit.inBlock, Exit.then])
      refine bodyPost_ret (v := .tuple #[entV zeroE, .bool false]) ?_ rfl ⟨by rw [HY.out.1, HY.out.2], ?_⟩
      · rw [results_cell_tmp rfl]
        go_simp
        rfl
      · exact set4_at HO.out.1 (Nat.le_refl _)
set_option maxRecDepth 8000 in
set_option maxHeartbeats 1000000 in
theorem lsame_yes (qa qb : Option Addr) (n ca cb : Nat) (l : List EntV) (w : World) (hn : n = l.length) (hnb : (n : Int) ≤ 1000000) (ha : EntsIn w qa l) (hb : EntsIn w qb l) :
    Calls Tryd.prog 20 #[.slice qa n ca, .slice qb n cb] w fun e w' => e = .returned (.bool true) ∧ Below w.heap.size w w' := by
  have HA : Hid (EntsIn w qa l) := ha
  have HB : Hid (EntsIn w qb l) := hb
  have HN : Hid (n = l.length) := hn
  clear ha hb hn
  go_enter Tryd.func20, Tryd.ntmps20
  go_wp2
  go_loopw [5] (fun i wr => ∃ k : Nat, k ≤ n ∧ i = .int .i64 k ∧ Below w.heap.size w wr) (fun i _ => n - (intOf i).toNat)
  case atStart => exact ⟨0, by omega, rfl, Below.refl _ _⟩
  case round =>
    obtain ⟨k, hk, rfl, hbel⟩ := hrel
    have HBE : Hid (Below w.heap.size w wr) := hbel
    clear hbel
    by_cases hkn : k < n
    · have g1 : decide (k < n) = true := decide_eq_true hkn
      have hkI : (k : Int) < (n : Int) := by omega
      obtain ⟨ba, oa, rfl⟩ := HA.out.addr (by have := HN.out; omega)
      obtain ⟨bb, ob, rfl⟩ := HB.out.addr (by have := HN.out; omega)
      obtain ⟨x, hx⟩ : ∃ x, l.getD k zeroE = x := ⟨_, rfl⟩
      obtain ⟨x0, x1, x2, x3⟩ := (HA.out.below HBE.out).at (k := k) (by have := HN.out; omega)
      obtain ⟨y0, y1, y2, y3⟩ := (HB.out.below HBE.out).at (k := k) (by have := HN.out; omega)
      rw [hx] at x0 x1 x2 x3 y0 y1 y2 y3
      obtain ⟨kx, vx, sx, gx⟩ := x
      simp only at x0 x1 x2 x3 y0 y1 y2 y3
      clear hx
      go_wp2
      go_quiet (fail)
      go_wp2
      go_roundw
      case rel => exact ⟨k + 1, by omega, by go_num, below_drewN HBE.out _⟩
      case measure => simp [intOf]; omega
    · have g1 : decide (k < n) = false := decide_eq_false hkn
      have hkI : (n : Int) ≤ (k : Int) := by omega
      go_wp2
      go_ret
      exact ⟨rfl, HBE.out⟩
set_option maxRecDepth 8000 in
set_option maxHeartbeats 2000000 in
theorem rFind_any (q : Option Addr) (n c : Nat) (l : List EntV) (key : ByteArray) (seq : Int) (w : World) (h : EntsL w q n l) (y : EntV) (is : Bool) (E : Nat) (hR : findL l key seq = (y, is, E)) :
    Calls Tryd.prog 17 #[.slice q n c, .string key, .int .i64 seq] w fun e w' => e = .returned (.tuple #[entV y, .bool is, .int .i64 (E : Int)]) ∧ Below w.heap.size w w' := by
  obtain ⟨C, hC⟩ : ∃ C, checkE l = C := ⟨_, rfl⟩
  have HCK := fun w' hb => rCheck_any q n c l w' (h.below hb) C hC
  obtain ⟨yn, isn, hnl⟩ : ∃ yn isn, newL l key seq = (yn, isn) := ⟨_, _, rfl⟩
  have HNW := fun w' (hb : Below w.heap.size w w') (h0 : Hid (C = 0)) => rNewest_any q n c l key seq w' (h.below hb) (by have := ((checkE_rise l).1 (hC.trans h0.out)).1; have := h.n; omega) yn isn hnl
  have HR : Hid ((if C ≠ 0 then (zeroE, false, C) else if key.size < 1 ∨ 256 < key.size then (zeroE, false, 60) else if seq < 0 ∨ 2147483647 < seq then (zeroE, false, 2) else (yn, isn, 0)) = (y, is, E)) := by
    show _ = _
    rw [← hR]
    unfold findL
    rw [hC, hnl]
  clear h hC hR hnl
  go_enter Tryd.func17, Tryd.ntmps17
  go_wp2_with fail
  refine (HCK _ (below_alloc _ _)).mono ?_
  rintro e w2 ⟨rfl, hb2⟩
  have HB2 : Hid (Below w.heap.size w w2) := below_bt (below_alloc _ _) hb2
  have HR2 : Hid (w2.heap[w.heap.size]? = some (.cells #[.string ⟨#[]⟩, .string ⟨#[]⟩, .int .i64 0, .bool false] 23 (0, 0))) := block_below' (heap_alloc_new _ _) hb2
  clear hb2 HCK
  obtain ⟨⟨z0, z1, z2, z3⟩, f0, f1, f2, f3⟩ := four HR2.out
  rcases Nat.eq_zero_or_pos C with h0 | h0
  · have HC0 : Hid (C = 0) := h0
    subst h0
    by_cases h1 : key.size < 1
    · have HK : Hid (key.size < 1) := h1
      have g1 : (key.size : Int) < 1 := by omega
      clear h1
      go_wp2
      (try simp only [Exit.inBlock, Exit.then])
      refine bodyPost_ret (v := .tuple #[entV zeroE, .bool false, .int .i64 60]) ?_ rfl ⟨by
        have h := HR.out
        rw [if_neg (by simp), if_pos (.inl HK.out)] at h
        obtain ⟨rfl, rfl, rfl⟩ := (show zeroE = y ∧ false = is ∧ 60 = E from ⟨(Prod.mk.inj h).1, (Prod.mk.inj (Prod.mk.inj h).2).1, (Prod.mk.inj (Prod.mk.inj h).2).2⟩)
        rfl, ?_⟩
      · rw [results_cell_tmp2 rfl]
        go_simp
        rfl
      · exact set4_at HB2.out (Nat.le_refl _)
    · have g1 : (1 : Int) ≤ (key.size : Int) := by omega
      by_cases h2 : 256 < key.size
      · have HK : Hid (256 < key.size) := h2
        have g2 : (256 : Int) < (key.size : Int) := by omega
        clear h1 h2
        go_wp2
        (try simp only [Exit.inBlock, Exit.then])
        refine bodyPost_ret (v := .tuple #[entV zeroE, .bool false, .int .i64 60]) ?_ rfl ⟨by
          have h := HR.out
          rw [if_neg (by simp), if_pos (.inr HK.out)] at h
          obtain ⟨rfl, rfl, rfl⟩ := (show zeroE = y ∧ false = is ∧ 60 = E from ⟨(Prod.mk.inj h).1, (Prod.mk.inj (Prod.mk.inj h).2).1, (Prod.mk.inj (Prod.mk.inj h).2).2⟩)
          rfl, ?_⟩
        · rw [results_cell_tmp2 rfl]
          go_simp
          rfl
        · exact set4_at HB2.out (Nat.le_refl _)
      · have HK : Hid (¬ (key.size < 1 ∨ 256 < key.size)) := by show ¬ _; omega
        have g2 : (key.size : Int) ≤ 256 := by omega
        have g2' : decide ((256 : Int) < (key.size : Int)) = false := decide_eq_false (by omega)
        clear h1 h2
        by_cases h3 : seq < 0
        · have HS : Hid (seq < 0) := h3
          go_wp2
          (try simp only [Exit.inBlock, Exit.then])
          refine bodyPost_ret (v := .tuple #[entV zeroE, .bool false, .int .i64 2]) ?_ rfl ⟨by
            have h := HR.out
            rw [if_neg (by simp), if_neg HK.out, if_pos (.inl HS.out)] at h
            obtain ⟨rfl, rfl, rfl⟩ := (show zeroE = y ∧ false = is ∧ 2 = E from ⟨(Prod.mk.inj h).1, (Prod.mk.inj (Prod.mk.inj h).2).1, (Prod.mk.inj (Prod.mk.inj h).2).2⟩)
            rfl, ?_⟩
          · rw [results_cell_tmp2 rfl]
            go_simp
            rfl
          · exact set4_at HB2.out (Nat.le_refl _)
        · have g3 : (0 : Int) ≤ seq := by omega
          have g3' : decide (seq < 0) = false := decide_eq_false h3
          by_cases h4 : 2147483647 < seq
          · have HS : Hid (2147483647 < seq) := h4
            clear h3
            go_wp2
            (try simp only [Exit.inBlock, Exit.then])
            refine bodyPost_ret (v := .tuple #[entV zeroE, .bool false, .int .i64 2]) ?_ rfl ⟨by
              have h := HR.out
              rw [if_neg (by simp), if_neg HK.out, if_pos (.inr HS.out)] at h
              obtain ⟨rfl, rfl, rfl⟩ := (show zeroE = y ∧ false = is ∧ 2 = E from ⟨(Prod.mk.inj h).1, (Prod.mk.inj (Prod.mk.inj h).2).1, (Prod.mk.inj (Prod.mk.inj h).2).2⟩)
              rfl, ?_⟩
            · rw [results_cell_tmp2 rfl]
              go_simp
              rfl
            · exact set4_at HB2.out (Nat.le_refl _)
          · have HS : Hid (¬ (seq < 0 ∨ 2147483647 < seq)) := by show ¬ _; omega
            have g4 : seq ≤ 2147483647 := by omega
            have g4' : decide (2147483647 < seq) = false := decide_eq_false h4
            have hnw := HNW w2 HB2.out HC0
            clear h3 h4 HNW z0 z1 z2 z3 f0 f1 f2 f3
            go_wp2_with fail
            refine hnw.mono ?_
            rintro e w3 ⟨rfl, hb3⟩
            have HB3 : Hid (Below w.heap.size w w3) := below_bt HB2.out hb3
            obtain ⟨kx, vx, sx, gx⟩ := yn
            rw [entV_def]
            obtain ⟨⟨z0, z1, z2, z3⟩, f0, f1, f2, f3⟩ := four (block_below' (block_below' HR2.out hb3) (below_alloc w3 (.cells #[.string kx, .string vx, .int .i64 sx, .bool gx] 23)))
            clear hb3 hnw
            go_wp2
            (try simp only [Exit.inBlock, Exit.then])
            refine bodyPost_ret (v := .tuple #[entV ⟨kx, vx, sx, gx⟩, .bool isn, .int .i64 0]) ?_ rfl ⟨by
              have h := HR.out
              rw [if_neg (by simp), if_neg HK.out, if_neg HS.out] at h
              obtain ⟨rfl, rfl, rfl⟩ := (show (⟨kx, vx, sx, gx⟩ : EntV) = y ∧ isn = is ∧ 0 = E from ⟨(Prod.mk.inj h).1, (Prod.mk.inj (Prod.mk.inj h).2).1, (Prod.mk.inj (Prod.mk.inj h).2).2⟩)
              rfl, ?_⟩
            · rw [results_cell_tmp2 rfl]
              go_simp
              rfl
            · exact set4_at (below_bt HB3.out (below_alloc _ _)) (Nat.le_refl _)
  · have hO1 : ((C : Int) == 0) = false := by simp; omega
    have HOp : Hid (C ≠ 0) := by show _ ≠ _; omega
    clear h0
    go_wp2
    (try simp only [Exit.inBlock, Exit.then])
    refine bodyPost_ret (v := .tuple #[entV zeroE, .bool false, .int .i64 (C : Int)]) ?_ rfl ⟨by
      have h := HR.out
      rw [if_pos HOp.out] at h
      obtain ⟨rfl, rfl, rfl⟩ := (show zeroE = y ∧ false = is ∧ C = E from ⟨(Prod.mk.inj h).1, (Prod.mk.inj (Prod.mk.inj h).2).1, (Prod.mk.inj (Prod.mk.inj h).2).2⟩)
      rfl, ?_⟩
    · rw [results_cell_tmp2 rfl]
      go_simp
      rfl
    · exact set4_at HB2.out (Nat.le_refl _)
end Go.Proofs.YtbeoijlkhpbdjaaDoor
namespace Go.Proofs.YtbeoijlkhpbdjaaDoor
open Go.RowKit Go.WideShapes

theorem rise_row (l : List EntV) : RiseE (rowE [] l) := ((checkE_rise _).1 (rowE_check check_nil l)).2.2
theorem EOwn.kept {Z : Nat → Prop} {w w' : World} {base : Nat} {v : Value} {l : List EntV} (h : EOwn w base v l) (hk : Kept Z w w') : EOwn w' base v l := by
  refine ⟨h.1, ?_⟩
  rcases h.2 with h2 | ⟨g, cap, cur, h1, h2, h3, h4⟩
  · exact .inl h2
  · exact .inr ⟨g, cap, cur, h1, h2, hk.typ _ _ _ _ h3 (by decide) (by decide), h4⟩
structure OnW (W : World) (Z : Nat → Prop) (r : Nat) (E : Nat) (a : List EntV) (wr : World) : Prop where
  row : RowIn wr Z r a
  laid : Laid wr
  bel : Below W.heap.size W wr
  size : E ≤ wr.heap.size
theorem OnW.next {W wr w' : World} {Z : Nat → Prop} {r E : Nat} {a : List EntV} (h : OnW W Z r E a wr) (hb : Below wr.heap.size wr w') : OnW W Z r E a w' := ⟨h.row.below hb, h.laid.below hb h.laid.size, below_bt h.bel hb, Nat.le_trans h.size hb.size⟩
theorem OnW.put {W wr w' : World} {Z : Nat → Prop} {r E : Nat} {a a' : List EntV} (h : OnW W Z r E a wr) (hr : RowIn w' Z r a') (hk : Kept Z wr w') (hz : ∀ k, k < W.heap.size → ¬ Z k) (h2 : 2 ≤ W.heap.size) : OnW W Z r E a' w' :=
  ⟨hr, h.laid.kept hk (hz 1 (by omega)), h.bel.trans (hk.bel hz h.bel.size), Nat.le_trans h.size hk.size⟩
theorem OnW.call {W wr : World} {Z : Nat → Prop} {r E : Nat} {a : List EntV} (h : OnW W Z r E a wr) (hc : checkE a = 0) (hz : ∀ k, k < W.heap.size → ¬ Z k) (h2 : 2 ≤ W.heap.size) (hE : ∀ k, E ≤ k → Z k) (x : EntV) (l' : List EntV) (e : Nat) (hl' : stepE a x = l') (he : (putE a x).2 = e) :
    Calls Tryd.prog 14 #[.pointer (some ⟨r, 0, none⟩), entV x] wr fun en w' => en = .returned (.int .i64 (e : Int)) ∧ OnW W Z r E l' w' ∧ Kept Z wr w' :=
  (rowPut_any Z r a x wr h.row hc h.laid (hz 1 (by omega)) (fun k hk => hE k (Nat.le_trans h.size hk)) l' e hl' he).mono fun _ _ ⟨h3, h4, h5⟩ => ⟨h3, h.put h4 h5 hz h2, h5⟩
theorem row_next {l : List EntV} {k : Nat} (h : k < l.length) {x : EntV} (hx : l.getD k zeroE = x) : stepE (rowE [] (l.take k)) x = rowE [] (l.take (k + 1)) := by
  rw [take_snoc h hx, rowE_snoc]
theorem row_back {l : List EntV} {k : Nat} (h : k < l.length) {x : EntV} (hx : l.getD k zeroE = x) : stepE (rowE [] (l.reverse.take (l.length - (k + 1)))) x = rowE [] (l.reverse.take (l.length - k)) := by
  have hk : l.length - (k + 1) < l.reverse.length := by rw [List.length_reverse]; omega
  have e : l.reverse.getD (l.length - (k + 1)) zeroE = x := by
    rw [← hx, List.getD_eq_getElem?_getD, List.getD_eq_getElem?_getD, List.getElem?_reverse (by omega)]
    congr 2
    omega
  have := take_snoc hk e
  rw [show l.length - (k + 1) + 1 = l.length - k by omega] at this
  rw [this, rowE_snoc]
end Go.Proofs.YtbeoijlkhpbdjaaDoor
namespace Go.Proofs.YtbeoijlkhpbdjaaDoor
open Go.RowKit Go.WideShapes

theorem rowPut_nil (x : EntV) (w : World) : Calls Tryd.prog 14 #[.pointer none, entV x] w fun e w' => e = .returned (.int .i64 1) ∧ Below w.heap.size w w' := by
  obtain ⟨ke, ve, se, ge⟩ := x
  rw [entV_def]
  go_enter Tryd.func14, Tryd.ntmps14
  go_wp2_with fail
  refine (made_nil _).mono ?_
  rintro e w1 ⟨rfl, rfl⟩
  go_wp2
  go_ret
  exact ⟨rfl, below_alloc _ _⟩
theorem rowAll_nil (w : World) : Calls Tryd.prog 12 #[.pointer none] w fun e w' => e = .returned (.tuple #[.slice none 0 0, .int .i64 1]) ∧ Below w.heap.size w w' := by
  go_enter Tryd.func12, Tryd.ntmps12
  go_wp2_with fail
  refine (made_nil _).mono ?_
  rintro e w1 ⟨rfl, rfl⟩
  go_wp2
  go_ret2
  exact ⟨rfl, Below.refl _ _⟩
theorem rowFind_no (r : Nat) (key : ByteArray) (seq : Int) (w : World) (h : w.cell? ⟨r, 0, none⟩ = some (.pointer none)) : Calls Tryd.prog 11 #[.pointer (some ⟨r, 0, none⟩), .string key, .int .i64 seq] w fun e w' => e = .returned (.tuple #[.agg #[.string ⟨#[]⟩, .string ⟨#[]⟩, .int .i64 0, .bool false], .bool false, .int .i64 1]) ∧ Below w.heap.size w w' := by
  have HZ : Hid ((w.alloc (.cells #[.string ⟨#[]⟩, .string ⟨#[]⟩, .int .i64 0, .bool false] 23)).heap[w.heap.size]? = some (.cells #[.string ⟨#[]⟩, .string ⟨#[]⟩, .int .i64 0, .bool false] 23 (0, 0))) := heap_alloc_new _ _
  have h' := ((below_alloc w (.cells #[.string ⟨#[]⟩, .string ⟨#[]⟩, .int .i64 0, .bool false] 23)).cell (World.block_lt_of_cell? _ _ h)).trans h
  clear h
  go_enter Tryd.func11, Tryd.ntmps11
  go_wp2_with fail
  refine (made_no _ _ h').mono ?_
  rintro e w1 ⟨rfl, rfl⟩
  go_wp2
  (try simp only [Exit.inBlock, Exit.then])
  refine bodyPost_ret (v := .tuple #[.agg #[.string ⟨#[]⟩, .string ⟨#[]⟩, .int .i64 0, .bool false], .bool false, .int .i64 1]) ?_ rfl ⟨rfl, ?_⟩
  · rw [results_cell_tmp2 rfl]
    go_simp
    try rfl
  · first
      | exact below_alloc _ _
      | exact set4_at (below_alloc _ _) (Nat.le_refl _)
theorem eight_ents {w : World} {g : Nat} {t : TypeId} {fr : Nat × Nat} (h : w.heap[g]? = some (.cells #[.string ⟨#[97]⟩, .string ⟨#[]⟩, .int .i64 2, .bool false, .string ⟨#[97]⟩, .string ⟨#[]⟩, .int .i64 1, .bool false] t fr)) : EntsL w (some ⟨g, 0, none⟩) 2 [eA 2, eA 1] := by
  refine ⟨rfl, fun _ => ⟨g, 0, rfl, fun i hi => ?_⟩⟩
  have hi' : i = 0 ∨ i = 1 := by simp only [List.length_cons, List.length_nil] at hi; omega
  rcases hi' with rfl | rfl
  · exact ⟨Lib.cell_of_heap h 0, Lib.cell_of_heap h 1, Lib.cell_of_heap h 2, Lib.cell_of_heap h 3⟩
  · exact ⟨Lib.cell_of_heap h 4, Lib.cell_of_heap h 5, Lib.cell_of_heap h 6, Lib.cell_of_heap h 7⟩
theorem check_21 : checkE [eA 2, eA 1] = 0 := check_two (by omega) (by omega) (by omega) (by omega) (by omega)
theorem find_none : findL [eA 2, eA 1] ⟨#[97]⟩ 0 = (zeroE, false, 0) := by
  unfold findL
  rw [if_neg (by simp [check_21]), if_neg (by show ¬ (1 < 1 ∨ 256 < 1); omega), if_neg (by omega), newL_none (fun z hz hh => ?_)]
  simp only [List.mem_cons, List.not_mem_nil, or_false] at hz
  rcases hz with rfl | rfl
  · have h2 : (2 : Int) ≤ 0 := hh.2; omega
  · have h2 : (1 : Int) ≤ 0 := hh.2; omega
theorem put_there : putE [eA 2, eA 1] (eA 1) = ([], 100) := putE_there check_21 (oneE_ok.2 (eA_ok (by omega) (by omega))) ⟨eA 1, by simp, rfl, rfl⟩
theorem put_zero : putE [] zeroE = ([], 60) := by
  have h : oneE zeroE = 60 := by
    unfold oneE
    rw [if_pos (.inl (by show 0 < 1; omega))]
  rw [putE_one check_nil (by rw [h]; decide), h]
theorem put_first : (putE [] (eA 1)).2 = 0 := by
  rw [putE_is check_nil (oneE_ok.2 (eA_ok (by omega) (by omega))) (fun h => by obtain ⟨_, h, _⟩ := h; simp at h) (by simp)]
set_option maxRecDepth 8000 in
set_option maxHeartbeats 4000000 in
theorem law_names (W : World) (hL : Laid W) :
    Calls Tryd.prog 3 #[] W fun e W' => e = .returned (.bool true) ∧ Below W.heap.size W W' := by
  have HL : Hid (Laid W) := hL
  clear hL
  go_enter Tryd.func3, Tryd.ntmps3
  go_wp2_with fail
  refine (of_any _ _ _).mono ?_
  rintro e w1 ⟨rfl, hb1⟩
  go_wp2_with fail
  refine (of_any _ _ _).mono ?_
  rintro e w2 ⟨rfl, hb2⟩
  have HB2 : Hid (Below W.heap.size W w2) := below_bt hb1 hb2
  clear hb1 hb2
  have hg : (w2.alloc (.cells #[.string ⟨#[97]⟩, .string ⟨#[]⟩, .int .i64 2, .bool false, .string ⟨#[97]⟩, .string ⟨#[]⟩, .int .i64 1, .bool false] 23)).heap[w2.heap.size]? = some (.cells #[.string ⟨#[97]⟩, .string ⟨#[]⟩, .int .i64 2, .bool false, .string ⟨#[97]⟩, .string ⟨#[]⟩, .int .i64 1, .bool false] 23 (0, 0)) := heap_alloc_new _ _
  have HE3 : Hid (EntsL (w2.alloc (.cells #[.string ⟨#[97]⟩, .string ⟨#[]⟩, .int .i64 2, .bool false, .string ⟨#[97]⟩, .string ⟨#[]⟩, .int .i64 1, .bool false] 23)) (some ⟨w2.heap.size, 0, none⟩) 2 [eA 2, eA 1]) := eight_ents hg
  have hf := find_any (some ⟨w2.heap.size, 0, none⟩) 2 2 [eA 2, eA 1] ⟨#[97]⟩ 2 _ HE3.out (eA 2) true 0 (find_a (by omega) (by omega) (by omega) (by omega) (by omega)).2
  rw [eA_v] at hf
  clear hg
  go_wp2_with fail
  refine hf.mono ?_
  rintro e w4 ⟨rfl, hb4⟩
  have hb4' := below_bt hb4 (below_alloc w4 (.cells #[.string ⟨#[97]⟩, .string ⟨#[]⟩, .int .i64 2, .bool false] 23))
  have HX : Hid ((w4.alloc (.cells #[.string ⟨#[97]⟩, .string ⟨#[]⟩, .int .i64 2, .bool false] 23)).heap[w4.heap.size]? = some (.cells #[.string ⟨#[97]⟩, .string ⟨#[]⟩, .int .i64 2, .bool false] 23 (0, 0))) := heap_alloc_new _ _
  have HE5 : Hid (EntsL (w4.alloc (.cells #[.string ⟨#[97]⟩, .string ⟨#[]⟩, .int .i64 2, .bool false] 23)) (some ⟨w2.heap.size, 0, none⟩) 2 [eA 2, eA 1]) := HE3.out.below hb4'
  have HB5 : Hid (Below W.heap.size W (w4.alloc (.cells #[.string ⟨#[97]⟩, .string ⟨#[]⟩, .int .i64 2, .bool false] 23))) := below_bt (below_bt HB2.out (below_alloc _ _)) hb4'
  have hf2 := find_any (some ⟨w2.heap.size, 0, none⟩) 2 2 [eA 2, eA 1] ⟨#[97]⟩ 0 _ HE5.out zeroE false 0 find_none
  rw [show entV zeroE = .agg #[.string ⟨#[]⟩, .string ⟨#[]⟩, .int .i64 0, .bool false] from rfl] at hf2
  clear hb4 hb4' hf HB2 HE3
  go_wp2_with fail
  refine hf2.mono ?_
  rintro e w6 ⟨rfl, hb6⟩
  have hb6' := below_bt hb6 (below_alloc w6 (.cells #[.string ⟨#[]⟩, .string ⟨#[]⟩, .int .i64 0, .bool false] 23))
  have HX7 : Hid ((w6.alloc (.cells #[.string ⟨#[]⟩, .string ⟨#[]⟩, .int .i64 0, .bool false] 23)).heap[w4.heap.size]? = some (.cells #[.string ⟨#[97]⟩, .string ⟨#[]⟩, .int .i64 2, .bool false] 23 (0, 0))) := block_below' HX.out hb6'
  have HE7 : Hid (EntsL (w6.alloc (.cells #[.string ⟨#[]⟩, .string ⟨#[]⟩, .int .i64 0, .bool false] 23)) (some ⟨w2.heap.size, 0, none⟩) 2 [eA 2, eA 1]) := HE5.out.below hb6'
  have HB7 : Hid (Below W.heap.size W (w6.alloc (.cells #[.string ⟨#[]⟩, .string ⟨#[]⟩, .int .i64 0, .bool false] 23))) := below_bt HB5.out hb6'
  clear hb6 hb6' hf2 HX HE5 HB5
  go_wp2_with fail
  refine (of_any _ _ _).mono ?_
  rintro e w8 ⟨rfl, hb8⟩
  have hp := put_any (some ⟨w2.heap.size, 0, none⟩) 2 2 [eA 2, eA 1] (eA 1) w8 (HE7.out.below hb8) (Nat.le_refl _) (fun h => by cases h) [] 100 put_there
  rw [eA_v] at hp
  have HX8 : Hid (w8.heap[w4.heap.size]? = some (.cells #[.string ⟨#[97]⟩, .string ⟨#[]⟩, .int .i64 2, .bool false] 23 (0, 0))) := block_below' HX7.out hb8
  have HB8 : Hid (Below W.heap.size W w8) := below_bt HB7.out hb8
  clear hb8 HE7 HX7 HB7
  generalize w2.heap.size = g2 at *
  go_wp2_with fail
  refine hp.mono ?_
  rintro e w9 ⟨⟨uq, uc, rfl, _⟩, hb9⟩
  have HX9 : Hid (w9.heap[w4.heap.size]? = some (.cells #[.string ⟨#[97]⟩, .string ⟨#[]⟩, .int .i64 2, .bool false] 23 (0, 0))) := block_below' HX8.out hb9
  have HB9 : Hid (Below W.heap.size W w9) := below_bt HB8.out hb9
  have hp2 := put_any none 0 0 [] zeroE w9 ⟨rfl, fun h => absurd h (by simp)⟩ (Nat.le_refl _) (fun _ => rfl) [] 60 put_zero
  rw [show entV zeroE = .agg #[.string ⟨#[]⟩, .string ⟨#[]⟩, .int .i64 0, .bool false] from rfl] at hp2
  clear hb9 hp HX8 HB8
  go_wp2_with fail
  refine hp2.mono ?_
  rintro e w10 ⟨⟨uq2, uc2, rfl, _⟩, hb10⟩
  have bx := below_alloc w10 (.cells #[.pointer none] 34)
  have HX11 : Hid ((w10.alloc (.cells #[.pointer none] 34)).heap[w4.heap.size]? = some (.cells #[.string ⟨#[97]⟩, .string ⟨#[]⟩, .int .i64 2, .bool false] 23 (0, 0))) := block_below' (block_below' HX9.out hb10) bx
  have HB11 : Hid (Below W.heap.size W (w10.alloc (.cells #[.pointer none] 34))) := below_bt (below_bt HB9.out hb10) bx
  have hfn := rowFind_no w10.heap.size ⟨#[97]⟩ 1 (w10.alloc (.cells #[.pointer none] 34)) (Lib.cell_of_heap (heap_alloc_new w10 (.cells #[.pointer none] 34)) 0)
  clear hb10 hp2 HX9 HB9 bx
  go_wp2_with fail
  refine hfn.mono ?_
  rintro e w12 ⟨rfl, hb12⟩
  have hb12' := below_bt hb12 (below_alloc w12 (.cells #[.string ⟨#[]⟩, .string ⟨#[]⟩, .int .i64 0, .bool false] 23))
  have HX13 : Hid ((w12.alloc (.cells #[.string ⟨#[]⟩, .string ⟨#[]⟩, .int .i64 0, .bool false] 23)).heap[w4.heap.size]? = some (.cells #[.string ⟨#[97]⟩, .string ⟨#[]⟩, .int .i64 2, .bool false] 23 (0, 0))) := block_below' HX11.out hb12'
  have HB13 : Hid (Below W.heap.size W (w12.alloc (.cells #[.string ⟨#[]⟩, .string ⟨#[]⟩, .int .i64 0, .bool false] 23))) := below_bt HB11.out hb12'
  clear hb12 hb12' hfn HX11 HB11
  go_wp2_with fail
  refine (rowAll_nil _).mono ?_
  rintro e w14 ⟨rfl, hb14⟩
  have HX14 : Hid (w14.heap[w4.heap.size]? = some (.cells #[.string ⟨#[97]⟩, .string ⟨#[]⟩, .int .i64 2, .bool false] 23 (0, 0))) := block_below' HX13.out hb14
  have HB14 : Hid (Below W.heap.size W w14) := below_bt HB13.out hb14
  clear hb14 HX13 HB13
  go_wp2_with fail
  refine (alive_any _).mono ?_
  rintro e w15 ⟨rfl, hb15⟩
  obtain ⟨a0, a1, a2, a3⟩ := four_cells (block_below' HX14.out hb15)
  have HB15 : Hid (Below W.heap.size W w15) := below_bt HB14.out hb15
  clear hb15 HX14 HB14
  go_wp2_with fail
  refine (of_any _ _ _).mono ?_
  rintro e w16 ⟨rfl, hb16⟩
  have HB16 : Hid (Below W.heap.size W w16) := below_bt HB15.out hb16
  have hpn := rowPut_nil (eA 1) w16
  rw [eA_v] at hpn
  clear hb16 HB15 a0 a1 a2 a3
  go_wp2_with fail
  refine hpn.mono ?_
  rintro e w17 ⟨rfl, hb17⟩
  have HB17 : Hid (Below W.heap.size W w17) := below_bt HB16.out hb17
  clear hb17 hpn HB16
  go_wp2_with fail
  refine (New_any _).mono ?_
  rintro e w18 ⟨rfl, hr, hb18⟩
  have HR : Hid (RowIn w18 (fun k => w17.heap.size ≤ k) (w17.heap.size + 3) []) := hr
  have HB18 : Hid (Below w17.heap.size w17 w18) := hb18
  clear hr hb18
  go_wp2_with fail
  refine (of_any _ _ _).mono ?_
  rintro e w19 ⟨rfl, hb19⟩
  have hb := below_bt HB17.out (below_bt HB18.out hb19)
  have h1719 : w17.heap.size ≤ w19.heap.size := (below_bt HB18.out hb19).size
  have hrp := rowPut_any (fun k => w17.heap.size ≤ k) (w17.heap.size + 3) [] (eA 1) w19 (HR.out.below hb19) check_nil (HL.out.below hb HL.out.size) (fun h => by have h' : w17.heap.size ≤ 1 := h; have h1 := HL.out.size; have h2 := HB17.out.size; omega) (fun k hk => Nat.le_trans h1719 hk) _ 0 rfl put_first
  rw [eA_v] at hrp
  have HB19 : Hid (Below W.heap.size W w19) := hb
  have HZW : Hid (∀ k, k < W.heap.size → ¬ (fun k => w17.heap.size ≤ k) k) := fun k hk h => by have h' : w17.heap.size ≤ k := h; have h2 := HB17.out.size; omega
  clear hb hb19 h1719
  go_wp2_with fail
  refine hrp.mono ?_
  rintro e w20 ⟨rfl, _, hk20⟩
  have HB20 : Hid (Below W.heap.size W w20) := HB19.out.trans (hk20.bel HZW.out HB19.out.size)
  clear hk20 hrp
  go_wp2
  go_ret
  exact ⟨rfl, HB20.out⟩
end Go.Proofs.YtbeoijlkhpbdjaaDoor
