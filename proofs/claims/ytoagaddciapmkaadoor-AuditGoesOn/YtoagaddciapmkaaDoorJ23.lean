/-
  Sixteens read: the document's; the law of both.
-/
import Derived.Test.YtoagaddciapmkaaDoorJ22
import Derived.Laws.AppendOwnNone
namespace Go.Proofs.YtoagaddciapmkaaDoor
open Go.RowKit Go.WideShapes Go.Maps

inductive RUnhI (w : World) (l : List Nat) (v t : Value) (wr : World) : Prop where
  | intro (k : Nat) (r : List Nat) (hk : 2 * k ≤ l.length) (ht : t = .int .i64 ((2 * k : Nat) : Int)) (hr : unhexN (l.take (2 * k)) = some r) (ho : wr.ownsRow w.heap.size 5 1 v r.length (Bs r)) (hb : Below w.heap.size w wr)
set_option maxHeartbeats 1000000 in
set_option maxRecDepth 100000 in
theorem runhex_any (s : ByteArray) (w : World) (hsz : s.size ≤ 1000000) :
    Calls Tryd.prog 72 #[.string s] w fun e w' => UnhP w (numsOf s) e w' := by
  obtain ⟨i0, hi, hz0, hz1, hz2⟩ := info_parts info5u
  have hlen := numsOf_len s
  by_cases hodd : s.size % 2 = 1
  · have hr : (s.size : Int) % 2 = 1 := by omega
    have hrT : (s.size : Int).tmod 2 = 1 := by rw [Int.tmod_eq_emod_of_nonneg (by omega)]; omega
    have hno := unhex_odd (s := numsOf s) (by rw [hlen]; exact hodd)
    go_enter Tryd.func72, Tryd.ntmps72
    go_wp2
    go_ret2
    exact .no hno rfl (Below.refl _ _)
  · have hr : (s.size : Int) % 2 = 0 := by omega
    have hrT : (s.size : Int).tmod 2 = 0 := by rw [Int.tmod_eq_emod_of_nonneg (by omega)]; omega
    go_enter Tryd.func72, Tryd.ntmps72
    go_wp2
    go_loopw [4, 5] (fun v t wr => RUnhI w (numsOf s) v t wr) (fun _ t _ => s.size - (intOf t).toNat)
    case atStart => exact ⟨0, [], by omega, rfl, by rw [Nat.mul_zero, List.take_zero]; rfl, World.ownsRow_nil _ _ _ _, Below.refl _ _⟩
    case round =>
      obtain ⟨k, r, hk, rfl, hr', hown, hb⟩ := hrel
      have hsw := hb.size
      have hrl : r.length = k := by
        have h1 := unhex_len hr'
        rw [List.length_take] at h1
        omega
      by_cases hlt : 2 * k < s.size
      · have a1 := str_at s (2 * k) (by omega)
        have a2 := str_at s (2 * k + 1) (by omega)
        have b1 := getD_lt (numsOf_lt s) (2 * k)
        have b2 := getD_lt (numsOf_lt s) (2 * k + 1)
        have hlk : 2 * k + 1 < (numsOf s).length := by rw [hlen]; omega
        have HM : ∀ x y, halfN ((numsOf s).getD (2 * k) 0) = some x → halfN ((numsOf s).getD (2 * k + 1) 0) = some y → unhexN ((numsOf s).take (2 * (k + 1))) = some (r ++ [16 * x + y]) := fun x y hx hy => unhex_more hlk hr' hx hy
        have HNO : halfN ((numsOf s).getD (2 * k) 0) = none ∨ halfN ((numsOf s).getD (2 * k + 1) 0) = none → unhexN (numsOf s) = none := unhex_no hlk
        obtain ⟨j, hj⟩ : ∃ j, 2 * k = j := ⟨_, rfl⟩
        obtain ⟨j1, hj1⟩ : ∃ j1, j + 1 = j1 := ⟨_, rfl⟩
        rw [hj] at a1 a2 b1 b2 HM HNO ⊢
        rw [hj1] at a2 b2 HM HNO
        have hj1I : (j : Int) + 1 = (j1 : Int) := by omega
        have hjs : (j : Int) < (s.size : Int) := by omega
        have hj1s : (j1 : Int) < (s.size : Int) := by omega
        have w1 := rhalf_any _ b1
        have w2 := rhalf_any _ b2
        generalize (numsOf s).getD j 0 = c1 at a1 b1 w1 HM HNO
        generalize (numsOf s).getD j1 0 = c2 at a2 b2 w2 HM HNO
        have Hhm : Hid _ := HM
        have Hhn : Hid _ := HNO
        have HJ : Hid _ := hj
        have hkn : k ≤ 1000000 := by omega
        have hjk : j + 2 ≤ s.size := by omega
        clear hr' HM HNO hj hj1 hk
        cases h1 : halfN c1 with
        | none =>
          rw [worth_none h1] at w1
          have HH1 : Hid _ := h1
          generalize worthN c2 = z2 at w2
          have W2 : Hid _ := w2
          have W1 : Hid _ := w1
          clear w1 w2 h1
          go_upto_region 8 with (go_at_call 82; refine (W1.out _).mono ?_; rintro e w3 ⟨rfl, rfl⟩)
          go_wp2_with (go_at_call 82; refine (W2.out _).mono ?_; rintro e w3 ⟨rfl, rfl⟩)
          go_ret2
          exact .no (Hhn.out (.inl HH1.out)) rfl hb
        | some x =>
          rw [worth_some h1] at w1
          have hx16 := half_lt h1
          have HH1 : Hid _ := h1
          cases h2 : halfN c2 with
          | none =>
            rw [worth_none h2] at w2
            have HH2 : Hid _ := h2
            have W2 : Hid _ := w2
            have W1 : Hid _ := w1
            clear w1 w2 h1 h2
            go_upto_region 8 with (go_at_call 82; refine (W1.out _).mono ?_; rintro e w3 ⟨rfl, rfl⟩)
            go_wp2_with (go_at_call 82; refine (W2.out _).mono ?_; rintro e w3 ⟨rfl, rfl⟩)
            go_ret2
            exact .no (Hhn.out (.inr HH2.out)) rfl hb
          | some y =>
            rw [worth_some h2] at w2
            have hy16 := half_lt h2
            have HH2 : Hid _ := h2
            obtain ⟨z, hz⟩ : ∃ z, 16 * x + y = z := ⟨_, rfl⟩
            have hxy : 16 * (x : Int) + (y : Int) = (z : Int) := by omega
            have HZ : Hid _ := hz
            have hz256 : z < 256 := by omega
            have W2 : Hid _ := w2
            have W1 : Hid _ := w1
            clear w1 w2 h1 h2 hz
            go_upto_region 8 with (go_at_call 82; refine (W1.out _).mono ?_; rintro e w3 ⟨rfl, rfl⟩)
            go_upto_region 11 with (go_at_call 82; refine (W2.out _).mono ?_; rintro e w3 ⟨rfl, rfl⟩)
            go_wp2_with (at_builtin; refine wpList_append_own _ rfl _ _ 22 rfl w.heap.size 5 i0 (.int .u8 0) 1 1 Tryd.underlying22 hi hz0 hz1 hz2 rfl (by decide) _ _ _ rfl (hown.alloc _) ⟨_, 0, none⟩ 1 1 [.int .u8 (z : Int)] rfl rfl (cell_one_new _ _ _) ?c2 ?c3 ?c4 ?c5 ?_)
            case c2 => intro u hu; simp at hu; subst hu; rfl
            case c3 => unfold maxLen; omega
            case c4 => omega
            case c5 => simp; omega
            intro v' w4 hown' hgrow _
            have R : w4.ownsRow w.heap.size 5 1 v' (r ++ [z]).length (Bs (r ++ [z])) ∧ Below w.heap.size w w4 :=
              ⟨by simpa [Bs_app, Bs, hrl] using hown', (hb.alloc hsw _).grown hgrow (by simp; omega) (fun g hg => (hown.lt g hg).1)⟩
            clear hown' hgrow hown
            go_wp2
            go_roundw
            case rel =>
              refine ⟨k + 1, r ++ [z], by rw [hlen]; have := HJ.out; omega, by have := HJ.out; refine congrArg _ ?_; omega, by rw [← HZ.out]; exact Hhm.out x y HH1.out HH2.out, R.1, R.2⟩
            case measure => simp [intOf]; omega
      · have e2 : 2 * k = s.size := by omega
        rw [show 2 * k = (numsOf s).length by rw [hlen]; omega, List.take_length] at hr'
        have HR : Hid _ := hr'
        rw [e2]
        clear hr' e2 hk hrl hlt
        go_wp2
        go_ret2
        exact .ok r _ HR.out rfl hown hb
end Go.Proofs.YtoagaddciapmkaaDoor
