/-
  Range and Next: the program's.
-/
import Derived.Test.YtoagaddciapmkaaDoorAOwn
import Derived.Lib.SliceRun
namespace Go.Proofs.YtoagaddciapmkaaDoor
open Go.RowKit Go.WideShapes

theorem eql_nilR (w : World) (a : Option Addr) (n c n' c' : Nat) : (binOp .eql 36 (.slice a n c) (.slice none n' c')).run Tryd.prog w = .ok (.bool a.isNone) w := Lib.run_eql_slice_nil w _ _ a n c n' c' Tryd.underlying36
set_option maxHeartbeats 1000000 in
set_option maxRecDepth 8000 in
theorem clone_any (q : Option Addr) (n c : Nat) (l : List RecV) (w : World) (h : RsL w q n l) (hq : q = none → c = 0) (hnb : n ≤ 5000) :
    Calls Tryd.prog 57 #[.slice q n c] w fun e w' => ∃ v, e = .returned v ∧ OnR w v l w' := by
  have HNB : Hid (n ≤ 5000) := hnb
  have H : Hid (RsL w q n l) := h
  have HQ : Hid (q = none → c = 0) := hq
  have q22 := eql_nilR
  clear hnb h hq
  go_enter Tryd.func57, Tryd.ntmps57
  cases q with
  | none =>
    have HL : Hid (l = []) := by
      show l = []
      cases l with
      | nil => rfl
      | cons y l => obtain ⟨b, o, e, _⟩ := H.out.lies (by simp); cases e
    go_wp2
    go_ret
    refine ⟨_, rfl, ?_⟩
    rw [HL.out]
    exact OnR.nil w
  | some ad =>
    have HO : Hid (ROwn (w.alloc (.cells #[] 41)) w.heap.size (.slice (some ⟨w.heap.size, 0, none⟩) 0 0) []) := World.ownsRow_made w #[] 0 (Nat.le_refl _) (Nat.zero_le _) (by simp)
    have HB : Hid (Below w.heap.size w (w.alloc (.cells #[] 41))) := (Below.refl _ _).alloc (Nat.le_refl _) _
    go_wp2_with (at_builtin; refine wpList_append_recs _ rfl _ _ rfl w.heap.size _ [] l (some ad) n c rfl rfl H.out.n HO.out (H.out.lies.below HB.out) (fun h => by cases h) (by have := HNB.out; have := H.out.n; simp only [List.length_nil]; omega) HB.out.size ?_)
    intro v' w' ho hg
    have R : OnR w v' ([] ++ l) w' := OnR.two ⟨HO.out, HB.out⟩ ho hg
    clear ho hg
    go_wp2
    go_ret
    exact ⟨_, rfl, R⟩
theorem own_mono {w : World} {base base' : Nat} {v : Value} {l : List RecV} (h : ROwn w base v l) (hb : base' ≤ base) : ROwn w base' v l := by
  refine ⟨h.1, ?_⟩
  rcases h.2 with h' | ⟨g, cap, cur, h1, h2, h3⟩
  · exact .inl h'
  · exact .inr ⟨g, cap, cur, h1, Nat.le_trans hb h2, h3⟩
def rangeE (l : List RecV) (f c : Int) : Nat := if refE l ≠ 0 then refE l else if f < 0 ∨ c < 0 then 2 else 0
def rangeL (l : List RecV) (f c : Int) : List RecV := if rangeE l f c = 0 then (l.drop f.toNat).take c.toNat else []
theorem rangeL_len (l : List RecV) (f c : Int) (h : l.length ≤ 5000 ∨ refE l ≠ 0) : (rangeL l f c).length ≤ 5000 := by
  unfold rangeL
  split
  · rename_i h0
    rw [List.length_take, List.length_drop]
    rcases h with h | h
    · omega
    · unfold rangeE at h0
      rw [if_pos h] at h0
      exact absurd h0 h
  · simp
set_option maxHeartbeats 2000000 in
set_option maxRecDepth 8000 in
theorem Range_any (q : Option Addr) (n c : Nat) (l : List RecV) (f k : Int) (w : World) (h : RsL w q n l) (hq : q = none → c = 0) (hc : n ≤ c) (hcb : (c : Int) ≤ 9223372036854775807) (hk : k ≤ 9223372036854775807) (hf : f ≤ 9223372036854775807) (E : Nat) (hE : rangeE l f k = E) :
    Calls Tryd.prog 28 #[.slice q n c, .int .i64 f, .int .i64 k] w fun e w' => ∃ v, e = .returned (.tuple #[v, .int .i64 (E : Int)]) ∧ OnR w v (rangeL l f k) w' := by
  have RF := refused_any q n c l w h.lies h.n (by omega)
  go_enter Tryd.func28, Tryd.ntmps28
  by_cases h0 : refE l = 0
  · rw [h0] at RF
    have ho := ref_ok h0
    have hn5 : n ≤ 4096 := by have := h.n; have := ho.1; omega
    by_cases hneg : f < 0 ∨ k < 0
    · have HE : Hid (E = 2) := by show E = 2; rw [← hE]; unfold rangeE; rw [if_neg (by omega), if_pos hneg]
      have HL : Hid (rangeL l f k = []) := by show _ = _; unfold rangeL; rw [hE, HE.out]; rfl
      clear hE ho hn5
      go_wp2_with fail
      refine RF.mono ?_
      rintro e w1 ⟨rfl, hb1⟩
      simp only []
      by_cases hf0 : f < 0
      · go_wp2
        go_ret2
        refine ⟨_, ?_, by rw [HL.out]; exact ⟨rown_nil _ _, hb1⟩⟩
        rw [HE.out]; rfl
      · have hk0 : k < 0 := by omega
        go_wp2
        go_ret2
        refine ⟨_, ?_, by rw [HL.out]; exact ⟨rown_nil _ _, hb1⟩⟩
        rw [HE.out]; rfl
    have HE : Hid (E = 0) := by show E = 0; rw [← hE]; unfold rangeE; rw [if_neg (by omega), if_neg hneg]
    have HL : Hid (rangeL l f k = (l.drop f.toNat).take k.toNat) := by show _ = _; unfold rangeL; rw [hE, HE.out]; rfl
    have hf0 : ¬ f < 0 := by omega
    have hk0 : ¬ k < 0 := by omega
    obtain ⟨F, rfl⟩ : ∃ F : Nat, f = (F : Int) := ⟨f.toNat, by omega⟩
    obtain ⟨K, rfl⟩ : ∃ F : Nat, k = (F : Int) := ⟨k.toNat, by omega⟩
    rw [Int.toNat_natCast, Int.toNat_natCast] at HL
    obtain ⟨G, hG⟩ : ∃ G, min F n = G := ⟨_, rfl⟩
    have m1 : min (F : Int) (n : Int) = (G : Int) := by omega
    obtain ⟨M, hM⟩ : ∃ M, n - G = M := ⟨_, rfl⟩
    obtain ⟨P, hP⟩ : ∃ P, min K M = P := ⟨_, rfl⟩
    have m2 : min (K : Int) (M : Int) = (P : Int) := by omega
    have HR : Hid ((l.drop F).take K = (l.drop G).take P) := by
      show _ = _
      have hnl := h.n
      apply List.ext_getElem?
      intro i
      rw [List.getElem?_take, List.getElem?_take, List.getElem?_drop, List.getElem?_drop]
      by_cases hF : F < n
      · obtain rfl : G = F := by omega
        by_cases hi : i < P
        · rw [if_pos hi, if_pos (by omega)]
        · rw [if_neg hi]
          split
          · rw [List.getElem?_eq_none (by omega)]
          · rfl
      · obtain rfl : G = n := by omega
        rw [List.getElem?_eq_none (by omega), List.getElem?_eq_none (by omega)]
        split <;> split <;> rfl
    have HLS : Hid (((l.drop G).take P).length = P) := by show _ = _; rw [List.length_take, List.length_drop]; have := h.n; omega
    have hGc : (G : Int) ≤ (c : Int) := by omega
    have hGn : (G : Int) ≤ (n : Int) := by omega
    have hGc' : G ≤ c := by omega
    by_cases hcG : c = G
    · have hP0 : P = 0 := by omega
      have CL := fun w' (_ : Below w.heap.size w w') => clone_any q P 0 ((l.drop G).take P) w' ⟨HLS.out.symm, fun hp => by have := HLS.out; omega⟩ (fun _ => rfl) (by omega)
      have hPc : (P : Int) ≤ ((c - G : Nat) : Int) := by omega
      have hM0 : M = 0 := by omega
      have hn0 : n = G := by omega
      subst hcG
      subst hn0
      subst hP0
      have m3 : min (K : Int) 0 = 0 := by omega
      clear hE ho hn5 hneg h0 h hc hcb hG hP hM hGc hGn hM0
      go_wp2_with fail
      refine RF.mono ?_
      rintro e w1 ⟨rfl, hb1⟩
      have C1 := CL w1 hb1
      clear CL RF
      simp only []
      go_wp2_with fail
      refine C1.mono ?_
      rintro e w2 ⟨v2, rfl, on2⟩
      simp only []
      go_wp2
      go_ret2
      refine ⟨v2, by rw [HE.out]; rfl, ?_⟩
      rw [HL.out, HR.out]
      exact ⟨own_mono on2.own hb1.size, below_more hb1 on2.bel⟩
    · have hq0 : ¬ q = none := fun e => by have := hq e; omega
      obtain ⟨ad, rfl⟩ : ∃ ad, q = some ad := by cases q with
        | none => exact absurd rfl hq0
        | some ad => exact ⟨ad, rfl⟩
      have RD : RsIn w (some (ad.add (G * 6))) ((l.drop G).take P) := by
        intro hp
        obtain ⟨b, o, e, _⟩ := h.lies (by have := HLS.out; have := h.n; omega)
        simp only [Option.some.injEq] at e
        subst e
        rw [add_plain]
        exact (h.lies.drop G).take P (by have := HLS.out; omega)
      have CL := fun w' (hb : Below w.heap.size w w') => clone_any (some (ad.add (G * 6))) P (c - G) ((l.drop G).take P) w' ⟨HLS.out.symm, RD.below hb⟩ (fun h => by cases h) (by omega)
      have hPc : (P : Int) ≤ ((c - G : Nat) : Int) := by omega
      have hPc' : P ≤ c - G := by omega
      clear hE ho hn5 hneg h0 h hc hcb hG hP hq hq0 RD
      go_wp2_with fail
      refine RF.mono ?_
      rintro e w1 ⟨rfl, hb1⟩
      have C1 := CL w1 hb1
      clear CL RF
      simp only []
      go_wp2_with fail
      refine C1.mono ?_
      rintro e w2 ⟨v2, rfl, on2⟩
      simp only []
      go_wp2
      go_ret2
      refine ⟨v2, by rw [HE.out]; rfl, ?_⟩
      rw [HL.out, HR.out]
      exact ⟨own_mono on2.own hb1.size, below_more hb1 on2.bel⟩
  · have HE : Hid (E = refE l) := by show E = _; rw [← hE]; unfold rangeE; rw [if_pos h0]
    have HL : Hid (rangeL l f k = []) := by show _ = _; unfold rangeL; rw [hE, if_neg (by rw [HE.out]; exact h0)]
    have HE2 : Hid (refE l = E) := HE.out.symm
    generalize refE l = R at RF HE h0
    have hne : ((R : Int) != 0) = true := by simpa using h0
    clear hE
    go_wp2_with fail
    refine RF.mono ?_
    rintro e w1 ⟨rfl, hb1⟩
    simp only []
    go_wp2
    go_ret2
    refine ⟨_, ?_, by rw [HL.out]; exact ⟨rown_nil _ _, hb1⟩⟩
    rw [HE.out]; rfl
end Go.Proofs.YtoagaddciapmkaaDoor
