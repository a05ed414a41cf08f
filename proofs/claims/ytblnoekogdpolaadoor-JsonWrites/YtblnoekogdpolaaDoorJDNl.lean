import Derived.Test.YtblnoekogdpolaaDoorJDFo
import Derived.Test.YtblnoekogdpolaaDoorJCkA
namespace Go.Proofs.YtblnoekogdpolaaDoor
open Go.RowKit Go.WideShapes Go.Joins
set_option maxHeartbeats 1000000 in
set_option maxRecDepth 8000 in
theorem dnumeral_any (s : ByteArray) (w : World) :
    Calls Tryd.prog 45 #[.string s] w fun e w' => e = .returned (.bool (isNm s)) ∧ Below w.heap.size w w' := by
  by_cases hs : s.size ≤ 16384
  · have hq : ¬ (16384 : Int) < (s.size : Int) := by omega
    have b1 := below_new w (rrbox s)
    have n1 := _root_.Go.heap_alloc_new w (rrbox s)
    have h1 : DIn (w.alloc (rrbox s)) w.heap.size s 0 (.live s 0) := ⟨Nat.zero_le _, by omega, by omega, 0, 0, by omega, by omega, n1, (fun s' j e => by cases e; exact ⟨rfl, rfl⟩), (fun s' e e' => by cases e')⟩
    have N := dnumber_any w.heap.size s 0 (.live s 0) _ h1
    have HB : Hid (Below w.heap.size w (w.alloc (rrbox s))) := b1
    have HN : Hid (isNm s = match J.number (numsOf s) with | .ok (.mk k _ _ _ _ _) r => decide (k = 3) && r.isEmpty | _ => false) := by
      show _ = _
      unfold isNm
      rw [decide_eq_true hs, Bool.true_and]
      rfl
    have hgz := goR_zero J.number s
    have hlen := numsOf_len s
    unfold rp rrbox at N
    unfold rrbox at HB
    clear hs b1 n1 h1
    go_enter Tryd.func45, Tryd.ntmps45
    go_wp2_with fail
    refine (show Calls _ _ _ (w.alloc (.cells #[.string s, .int .i64 0, .int .i64 0, .int .i64 0, .int .i64 0] 72)) _ from N.mono ?_)
    clear N
    rintro e w1 ⟨k, n, t, rfl, hk, hn, hv, h1, g1⟩
    simp only []
    have b2 := below_new w1 (.cells (flatA k false n t) 25)
    have n2 := _root_.Go.heap_alloc_new w1 (.cells (flatA k false n t) 25)
    have h2 := h1.below b2
    have BF : Below w.heap.size w (w1.alloc (.cells (flatA k false n t) 25)) := (below_of_grown HB.out g1 (Nat.le_refl _)).trans (b2.mono (Nat.le_trans HB.out.size (Nat.le_trans g1.size (Nat.le_refl _)) |> fun h => by omega))
    have x0 : (w1.alloc (.cells (flatA k false n t) 25)).cell? ⟨w1.heap.size, 0, none⟩ = some (.int .u8 (k : Int)) := by rw [cell_of_block n2]; rfl
    have HF : Hid (Below w.heap.size w (w1.alloc (.cells (flatA k false n t) 25))) := BF
    obtain ⟨i8, at8, _, _, hb8, hl8, _⟩ := h2.ex
    have d1 : (w1.alloc (.cells (flatA k false n t) 25)).cell? ⟨w.heap.size, 1, none⟩ = some (.int .i64 (i8 : Int)) := by rw [cell_of_block hb8]; rfl
    have d2 : (w1.alloc (.cells (flatA k false n t) 25)).cell? ⟨w.heap.size, 2, none⟩ = some (.int .i64 ((goR J.number (.live s 0)).1.e : Int)) := by rw [cell_of_block hb8]; rfl
    have ho := h2.ok
    unfold flatA jA at x0 HF d1 d2 ⊢
    clear b2 n2 h1 g1 BF hb8 h2
    cases hr : J.number (numsOf s) with
    | out =>
      exfalso
      rw [hr] at hgz
      simp only at hgz
      exact absurd hr (J.Never.number _)
    | bad er r =>
      rw [hr] at hgz HN
      simp only at hgz HN
      rw [hgz] at d2 ho
      simp only [RS.e] at d2
      have he : ((er : Int) == 0) = false := by simpa using fun q : (er : Int) = 0 => ho.1 (by omega)
      generalize (er : Int) = E at d2 he
      clear ho hgz hr hv hn hlen hl8
      go_wp2
      go_ret
      exact ⟨by rw [HN.out]; rfl, HF.out⟩
    | ok v r =>
      rw [hr] at hgz HN
      rw [hgz] at d2 hv hl8
      obtain ⟨_, rfl⟩ := hl8 _ _ rfl
      simp only [RS.e] at d2
      rw [show (((0 : Nat) : Int)) = 0 from rfl] at d2
      obtain rfl := hv v rfl
      obtain ⟨a, ha⟩ := J.Good.number.okS _ _ _ hr
      have hrl : r.length ≤ s.size := by rw [← hlen, ha, List.length_append]; omega
      by_cases hr0 : r = []
      · subst hr0
        simp only [List.length_nil, Nat.sub_zero, List.isEmpty_nil, Bool.and_true] at d1 HN
        have hS : ((s.size : Int) == (s.size : Int)) = true := beq_self_eq_true _
        by_cases hk3 : k = 3
        · subst hk3
          simp only [show (((3 : Nat) : Int)) = 3 from rfl] at x0 HF d1 d2 ⊢
          clear ho hgz hr hv hn hlen ha hrl hl8
          go_wp2
          go_ret
          exact ⟨by rw [HN.out]; rfl, HF.out⟩
        · have n3 : ((k : Int) == 3) = false := by simpa using fun e : (k : Int) = 3 => hk3 (by omega)
          have HK : Hid (decide (k = 3) = false) := decide_eq_false hk3
          clear ho hgz hr hv hn hlen ha hrl hk3 hk hl8
          go_wp2
          go_ret
          exact ⟨by rw [HN.out, HK.out]; rfl, HF.out⟩
      · have HK : Hid (r.isEmpty = false) := by cases r with
          | nil => exact absurd rfl hr0
          | cons => rfl
        have hpos : 0 < r.length := by cases r with
          | nil => exact absurd rfl hr0
          | cons => simp
        have hne : (((s.size - r.length : Nat) : Int) == (s.size : Int)) = false := by simpa using fun e : ((s.size - r.length : Nat) : Int) = (s.size : Int) => absurd e (by omega)
        generalize ((s.size - r.length : Nat) : Int) = I at d1 hne
        clear ho hgz hr hv hn hlen ha hrl hr0 hpos hl8
        go_wp2
        go_ret
        exact ⟨by rw [HN.out, HK.out]; simp, HF.out⟩
  · have hq : (16384 : Int) < (s.size : Int) := by omega
    have e1 : isNm s = false := by unfold isNm; rw [decide_eq_false hs, Bool.false_and]
    rw [e1]
    clear hs e1
    go_enter Tryd.func45, Tryd.ntmps45
    go_wp2_with fail
    go_ret
    exact ⟨rfl, Below.refl _ _⟩
end Go.Proofs.YtblnoekogdpolaaDoor
