/-
  A row goes up in a heap.
-/
import Derived.Test.YtbnacopefclklaaJ02
import Derived.Test.YtbnacopefclklaaJ03
import Derived.Test.YtbnacopefclklaaJ05
import Derived.Test.YtbnacopefclklaaJ04
import Derived.Laws.OwnMore
namespace Go.Proofs.Ytbnacopefclklaa
open Go.RowKit Go.WideShapes


/-- The lowest k bytes of a number. -/
def putK : Nat → Nat → List Nat
  | 0, _ => []
  | k + 1, m => (m % 256) :: putK k (m / 256)
theorem putK_8 (n : Nat) (h : n < 18446744073709551616) : putK 8 n = putN n := by
  simp only [putK, putN, Nat.div_div_eq_div_mul, Nat.reduceMul]
  have : n / 72057594037927936 % 256 = n / 72057594037927936 := by omega
  rw [this]
theorem putK_step (k m : Nat) (h : k < 8) : putK (8 - k) m = (m % 256) :: putK (8 - (k + 1)) (m / 256) := by
  rw [show 8 - k = (8 - (k + 1)) + 1 from by omega]; rfl

theorem ret_two {a b : Int} {k1 k2 : IntKind} {c : Int} (h : a = b) : Ending.returned (.tuple #[.int k1 a, .int k2 c]) = .returned (.tuple #[.int k1 b, .int k2 c]) := by rw [h]
end Go.Proofs.Ytbnacopefclklaa
namespace Go.Proofs.Ytbnacopefclklaa
open Go.RowKit Go.WideShapes

theorem bl_irrefl : ∀ (a : List UInt8), Op.bytesLess a a = false
  | [] => rfl
  | x :: a => by
    unfold Op.bytesLess
    simp [UInt8.lt_irrefl x, bl_irrefl a]
set_option maxHeartbeats 1000000 in
theorem rless_any (a b : EntV) (w : World) : Calls Try.prog 33 #[entV a, entV b] w fun e w' => e = .returned (.bool (lessE a b)) ∧ Below w.heap.size w w' := by
  obtain ⟨ak, av, az, ag⟩ := a
  obtain ⟨bk, bv, bz, bg⟩ := b
  rw [entV_def, entV_def]
  obtain ⟨r, hr⟩ : ∃ r, lessE ⟨ak, av, az, ag⟩ ⟨bk, bv, bz, bg⟩ = r := ⟨_, rfl⟩
  rw [hr]
  unfold lessE at hr
  simp only at hr
  by_cases h2 : ak = bk
  · subst h2
    have HR : Hid (r = decide (bz < az)) := by show _ = _; rw [← hr, bl_irrefl]; simp
    clear hr
    go_enter Try.func33, Try.ntmps33
    go_wp2
    go_ret
    exact ⟨by rw [HR.out]; rfl, (below_alloc w _).alloc (by simp) _⟩
  · have h2' : (ak.toList == bk.toList) = false := by rw [eq_str]; simp [h2]
    have HR : Hid (r = Op.bytesLess ak.toList bk.toList) := by show _ = _; rw [← hr, h2']; simp
    clear hr h2
    go_enter Try.func33, Try.ntmps33
    go_wp2
    go_ret
    exact ⟨by rw [HR.out]; rfl, (below_alloc w _).alloc (by simp) _⟩
set_option maxHeartbeats 2000000 in
theorem rone_any (x : EntV) (w : World) (E : Nat) (hE : oneE x = E) : Calls Try.prog 35 #[entV x] w fun e w' => e = .returned (.int .i64 (E : Int)) ∧ Below w.heap.size w w' := by
  obtain ⟨k, v, s, g⟩ := x
  rw [entV_def]
  unfold oneE at hE
  simp only at hE
  by_cases h1 : k.size < 1
  · rw [if_pos (.inl h1)] at hE
    subst hE
    have q1 : (k.size : Int) < 1 := by omega
    clear h1
    go_enter Try.func35, Try.ntmps35
    go_wp2
    go_ret
    exact ⟨rfl, below_alloc _ _⟩
  · have q1 : (1 : Int) ≤ (k.size : Int) := by omega
    by_cases h2 : 256 < k.size
    · rw [if_pos (.inr h2)] at hE
      subst hE
      have q2 : (256 : Int) < (k.size : Int) := by omega
      clear h1 h2
      go_enter Try.func35, Try.ntmps35
      go_wp2
      go_ret
      exact ⟨rfl, below_alloc _ _⟩
    · rw [if_neg (by omega)] at hE
      have q2 : (k.size : Int) ≤ 256 := by omega
      clear h1 h2
      by_cases h3 : 4096 < v.size
      · rw [if_pos h3] at hE
        subst hE
        have q3 : (4096 : Int) < (v.size : Int) := by omega
        clear h3
        go_enter Try.func35, Try.ntmps35
        go_wp2
        go_ret
        exact ⟨rfl, below_alloc _ _⟩
      · rw [if_neg h3] at hE
        have q3 : (v.size : Int) ≤ 4096 := by omega
        clear h3
        by_cases h4 : s < 0
        · rw [if_pos (.inl h4)] at hE
          subst hE
          go_enter Try.func35, Try.ntmps35
          go_wp2
          go_ret
          exact ⟨rfl, below_alloc _ _⟩
        · by_cases h5 : 2147483647 < s
          · rw [if_pos (.inr h5)] at hE
            subst hE
            have q4 : 0 ≤ s := by omega
            clear h4
            go_enter Try.func35, Try.ntmps35
            go_wp2
            go_ret
            exact ⟨rfl, below_alloc _ _⟩
          · rw [if_neg (by omega)] at hE
            have q4 : 0 ≤ s := by omega
            have q5 : s ≤ 2147483647 := by omega
            clear h4 h5
            cases g with
            | false =>
              rw [if_neg (by simp)] at hE
              subst hE
              go_enter Try.func35, Try.ntmps35
              go_wp2
              go_ret
              exact ⟨rfl, below_alloc _ _⟩
            | true =>
              by_cases h6 : v = ByteArray.empty
              · rw [if_neg (by simp [h6])] at hE
                subst hE h6
                go_enter Try.func35, Try.ntmps35
                go_wp2
                go_ret
                exact ⟨rfl, below_alloc _ _⟩
              · rw [if_pos ⟨rfl, h6⟩] at hE
                subst hE
                have g5' : v.toList.isEmpty = false := nonempty_of h6
                clear h6
                go_enter Try.func35, Try.ntmps35
                go_wp2
                go_ret
                exact ⟨rfl, below_alloc _ _⟩
set_option maxRecDepth 8000 in
set_option maxHeartbeats 1000000 in
theorem rsame_yes (qa qb : Option Addr) (n ca cb : Nat) (l : List EntV) (w : World) (hn : n = l.length) (hnb : (n : Int) ≤ 1000000) (ha : EntsIn w qa l) (hb : EntsIn w qb l) :
    Calls Try.prog 20 #[.slice qa n ca, .slice qb n cb] w fun e w' => e = .returned (.bool true) ∧ Below w.heap.size w w' := by
  have HA : Hid (EntsIn w qa l) := ha
  have HB : Hid (EntsIn w qb l) := hb
  have HN : Hid (n = l.length) := hn
  clear ha hb hn
  go_enter Try.func20, Try.ntmps20
  go_wp2
  go_loopw [5] (fun i wr => ∃ k : Nat, k ≤ n ∧ i = .int .i64 k ∧ Below w.heap.size w wr) (fun i _ => n - (intOf i).toNat)
  case atStart => exact ⟨0, by omega, rfl, Below.refl _ _⟩
  case round =>
    obtain ⟨k, hk, rfl, hbel⟩ := hrel
    have HBE : Hid (Below w.heap.size w wr) := hbel
    clear hbel
    by_cases hkn : k < n
    · have g1 : decide (k < n) = true := decide_eq_true hkn
      have hkI : (k : Int) < (n : Int) := by omega
      obtain ⟨ba, oa, rfl⟩ := HA.out.addr (by have := HN.out; omega)
      obtain ⟨bb, ob, rfl⟩ := HB.out.addr (by have := HN.out; omega)
      obtain ⟨x, hx⟩ : ∃ x, l.getD k zeroE = x := ⟨_, rfl⟩
      obtain ⟨x0, x1, x2, x3⟩ := (HA.out.below HBE.out).at (k := k) (by have := HN.out; omega)
      obtain ⟨y0, y1, y2, y3⟩ := (HB.out.below HBE.out).at (k := k) (by have := HN.out; omega)
      rw [hx] at x0 x1 x2 x3 y0 y1 y2 y3
      obtain ⟨kx, vx, sx, gx⟩ := x
      simp only at x0 x1 x2 x3 y0 y1 y2 y3
      clear hx
      go_wp2
      go_quiet (fail)
      go_wp2
      go_roundw
      case rel => exact ⟨k + 1, by omega, by go_num, below_drewN HBE.out _⟩
      case measure => simp [intOf]; omega
    · have g1 : decide (k < n) = false := decide_eq_false hkn
      have hkI : (n : Int) ≤ (k : Int) := by omega
      go_wp2
      go_ret
      exact ⟨rfl, HBE.out⟩
end Go.Proofs.Ytbnacopefclklaa
namespace Go.Proofs.Ytbnacopefclklaa
open Go.RowKit Go.WideShapes

set_option maxRecDepth 8000 in
set_option maxHeartbeats 4000000 in
theorem rCheck_any (q : Option Addr) (n c : Nat) (l : List EntV) (w : World) (h : EntsL w q n l) (C : Nat) (hC : checkE l = C) :
    Calls Try.prog 31 #[.slice q n c] w fun e w' => e = .returned (.int .i64 (C : Int)) ∧ Below w.heap.size w w' := by
  unfold checkE at hC
  have HN : Hid (n = l.length) := h.n
  by_cases hl : 4096 < l.length
  · rw [if_pos hl] at hC
    subst hC
    have g1 : (4096 : Int) < (n : Int) := by have := h.n; omega
    clear hl h
    go_enter Try.func31, Try.ntmps31
    go_wp2
    go_ret
    exact ⟨rfl, Below.refl _ _⟩
  rw [if_neg hl] at hC
  have g1 : (n : Int) ≤ 4096 := by have := h.n; omega
  have HQ : Hid (EntsIn w q l) := h.lies
  have HC : Hid (checkF (prevE l 0) (l.drop 0) = C) := hC
  clear hC h hl
  go_enter Try.func31, Try.ntmps31
  go_wp2
  go_loopw [3] (fun i wr => ∃ k : Nat, k ≤ n ∧ i = .int .i64 k ∧ checkF (prevE l k) (l.drop k) = C ∧ Below w.heap.size w wr) (fun i _ => n - (intOf i).toNat)
  case atStart => exact ⟨0, by omega, rfl, HC.out, Below.refl _ _⟩
  case round =>
    obtain ⟨k, hk, rfl, hs, hbel⟩ := hrel
    have HK : Hid (checkF (prevE l k) (l.drop k) = C) := hs
    have HB : Hid (Below w.heap.size w wr) := hbel
    clear hs hbel
    by_cases hkl : k < n
    · have g9 : decide (k < n) = true := decide_eq_true hkl
      have hkl' : k < l.length := by have := HN.out; omega
      obtain ⟨b, o, rfl⟩ := HQ.out.addr (by omega)
      have HQ2 := (HQ.out.below HB.out)
      obtain ⟨e0, e1, e2, e3⟩ := HQ2.at hkl'
      obtain ⟨y, hy⟩ : ∃ y, l.getD k zeroE = y := ⟨_, rfl⟩
      rw [hy] at e0 e1 e2 e3
      have HY : Hid (l.getD k zeroE = y) := hy
      obtain ⟨ke, ve, se, ge⟩ := y
      simp only at e0 e1 e2 e3
      obtain ⟨E, hE⟩ : ∃ E, oneE ⟨ke, ve, se, ge⟩ = E := ⟨_, rfl⟩
      have HE : Hid (oneE ⟨ke, ve, se, ge⟩ = E) := hE
      have HCE := fun w' => rone_any ⟨ke, ve, se, ge⟩ w' E hE
      rw [entV_def] at HCE
      have HBX : Hid (C4 wr b (o + k * 4) (.string ke) (.string ve) (.int .i64 se) (.bool ge)) := ⟨e0, e1, e2, e3⟩
      have hkn : (k : Int) < (n : Int) := by omega
      have HKL : Hid (k < l.length) := hkl'
      clear hE hy hkl'
      rcases Nat.eq_zero_or_pos E with hE0 | hE0
      · subst hE0
        rcases k with _ | k
        · have H2 : Hid (checkF (prevE l 1) (l.drop 1) = C) := by show _ = _; rw [← checkF_zero HKL.out HY.out HE.out]; exact HK.out
          clear HQ2
          simp only [Nat.zero_mul, Nat.add_zero] at e0 e1 e2 e3
          go_wp2_with fail
          refine (HCE _).mono ?_
          rintro e w2 ⟨rfl, hb2⟩
          have HB2 : Hid (Below w.heap.size w w2) := below_bt HB.out hb2
          clear hb2 HCE HBX
          go_wp2
          go_quiet (fail)
          go_wp2
          go_roundw
          case rel => exact ⟨1, by omega, by go_num, H2.out, below_drewN HB2.out _⟩
          case measure => simp [intOf]; omega
        · obtain ⟨x, hx⟩ : ∃ x, l.getD k zeroE = x := ⟨_, rfl⟩
          obtain ⟨kx, vx, sx, gx⟩ := x
          have h4 := HQ2.at (k := k) (by have := HKL.out; omega)
          rw [hx] at h4
          have HP : Hid (C4 wr b (o + k * 4) (.string kx) (.string vx) (.int .i64 sx) (.bool gx)) := h4
          have HNX := checkF_next HKL.out hx HY.out HE.out
          obtain ⟨r, hr⟩ : ∃ r, lessE ⟨kx, vx, sx, gx⟩ ⟨ke, ve, se, ge⟩ = r := ⟨_, rfl⟩
          have HLE := fun w' => rless_any ⟨kx, vx, sx, gx⟩ ⟨ke, ve, se, ge⟩ w'
          rw [hr, entV_def, entV_def] at HLE
          rw [hr, HK.out] at HNX
          have HNX' : Hid (C = if r = true then checkF (prevE l (k + 2)) (l.drop (k + 2)) else 100) := HNX
          clear hx hr HQ2 h4 HNX
          go_wp2_with fail
          refine (HCE _).mono ?_
          rintro e w2 ⟨rfl, hb2⟩
          have HD : Hid (C4 w2 b (o + (k + 1) * 4) (.string ke) (.string ve) (.int .i64 se) (.bool ge)) := c4_below HBX.out hb2
          have HP2 : Hid (C4 w2 b (o + k * 4) (.string kx) (.string vx) (.int .i64 sx) (.bool gx)) := c4_below HP.out hb2
          have HB2 : Hid (Below w.heap.size w w2) := below_bt HB.out hb2
          clear hb2 HCE HBX HP
          have kw0 : IntKind.i64.wrap (k : Int) = (k : Int) := by rw [IntKind.wrap_i64]; omega
          have kw1 : IntKind.i64.wrap ((k : Int) + 1 - 1) = (k : Int) := by rw [IntKind.wrap_i64]; omega
          have kw2 : IntKind.i64.wrap (((k + 1 : Nat) : Int) - 1) = (k : Int) := by rw [IntKind.wrap_i64]; omega
          have kb0 : (0 : Int) ≤ (k : Int) := by omega
          have kb2 : (0 : Int) ≤ (k : Int) + 1 := by omega
          have kb3 : (k : Int) + 1 < (n : Int) := by omega
          have kb4 : ((k : Int) + 1).toNat = k + 1 := by omega
          have kb1 : (k : Int) < (n : Int) := by omega
          go_wp2
          go_region_held3 (fun w' => (w'.cell? ⟨b, o + (k + 1) * 4, none⟩ = some (.string ke) ∧ w'.cell? ⟨b, o + (k + 1) * 4 + 1, none⟩ = some (.string ve) ∧ w'.cell? ⟨b, o + (k + 1) * 4 + 2, none⟩ = some (.int .i64 se) ∧ w'.cell? ⟨b, o + (k + 1) * 4 + 3, none⟩ = some (.bool ge)) ∧ (w'.cell? ⟨b, o + k * 4, none⟩ = some (.string kx) ∧ w'.cell? ⟨b, o + k * 4 + 1, none⟩ = some (.string vx) ∧ w'.cell? ⟨b, o + k * 4 + 2, none⟩ = some (.int .i64 sx) ∧ w'.cell? ⟨b, o + k * 4 + 3, none⟩ = some (.bool gx)) ∧ Below w2.heap.size w2 w')
            (with_reducible first | exact ⟨HD.out, HP2.out, Below.refl _ _⟩ | exact ⟨c4_below HD.out (Below.refl _ _).drew, c4_below HP2.out (Below.refl _ _).drew, (Below.refl _ _).drew⟩ | exact ⟨c4_below HD.out (below_dw (by assumption)), c4_below HP2.out (below_dw (by assumption)), below_dw (by assumption)⟩ | assumption)
            (first
              | (go_at_call 33; refine (HLE _).mono ?_; rintro e w3 ⟨rfl, hb3⟩)
              | fail)
          rename_i hh
          have HB3 : Hid (Below w.heap.size w w3) := below_bt HB2.out hh.2.2
          clear hh
          cases r with
          | true =>
            have H2 : Hid (checkF (prevE l (k + 2)) (l.drop (k + 2)) = C) := by have := HNX'.out; rw [if_pos rfl] at this; exact this.symm
            go_wp2
            go_roundw
            case rel => exact ⟨k + 2, by omega, by go_num, H2.out, HB3.out⟩
            case measure => simp [intOf]; omega
          | false =>
            have H2 : Hid (C = 100) := by have := HNX'.out; rw [if_neg (by simp)] at this; exact this
            go_wp2
            go_ret
            exact ⟨by rw [H2.out]; rfl, HB3.out⟩
      · have hne : ((E : Int) != 0) = true := by simp; omega
        have H2 : Hid (E = C) := by show _ = _; rw [← HK.out, checkF_one HKL.out HY.out (by rw [HE.out]; omega), HE.out]
        clear HQ2 hE0
        go_wp2_with fail
        refine (HCE _).mono ?_
        rintro e w2 ⟨rfl, hb2⟩
        have HB2 : Hid (Below w.heap.size w w2) := below_bt HB.out hb2
        clear hb2 HCE HBX
        go_wp2
        go_ret
        exact ⟨by rw [← H2.out]; rfl, HB2.out⟩
    · have g2 : (n : Int) ≤ (k : Int) := by omega
      have g9 : decide (k < n) = false := decide_eq_false hkl
      have H2 : Hid (C = 0) := by show _ = _; rw [← HK.out]; exact checkF_end l k (by have := HN.out; omega)
      go_wp2
      go_ret
      exact ⟨by rw [H2.out]; rfl, HB.out⟩
end Go.Proofs.Ytbnacopefclklaa
namespace Go.Proofs.Ytbnacopefclklaa
open Go.RowKit Go.WideShapes

abbrev zE : Array Value := #[.string ⟨#[]⟩, .string ⟨#[]⟩, .int .i64 0, .bool false]
set_option maxRecDepth 8000 in
set_option maxHeartbeats 2000000 in
theorem rNewest_any (q : Option Addr) (n c : Nat) (l : List EntV) (key : ByteArray) (seq : Int) (w : World) (h : EntsL w q n l) (hz : n ≤ 1000000) (y : EntV) (is : Bool) (hR : newL l key seq = (y, is)) :
    Calls Try.prog 36 #[.slice q n c, .string key, .int .i64 seq] w fun e w' => e = .returned (.tuple #[entV y, .bool is]) ∧ Below w.heap.size w w' := by
  have HE : Hid (EntsIn w q l ∧ n = l.length) := ⟨h.lies, h.n⟩
  have hzI : (n : Int) ≤ 1000000 := by omega
  have HR : Hid (newL (l.drop 0) key seq = (y, is)) := hR
  have HNW : Hid (Below w.heap.size w (w.alloc (.cells zE 23)) ∧ (w.alloc (.cells zE 23)).heap[w.heap.size]? = some (.cells zE 23 (0, 0))) := ⟨below_alloc _ _, heap_alloc_new _ _⟩
  clear h hR
  go_enter Try.func36, Try.ntmps36
  go_wp2
  go_loopw [8] (fun i wr => ∃ k : Nat, k ≤ n ∧ i = .int .i64 k ∧ newL (l.drop k) key seq = (y, is) ∧ Below w.heap.size w wr ∧ wr.heap[w.heap.size]? = some (.cells zE 23 (0, 0))) (fun i _ => n - (intOf i).toNat)
  case atStart => exact ⟨0, by omega, rfl, HR.out, HNW.out⟩
  case round =>
    obtain ⟨k, hk, rfl, hnew, hbel, hblk⟩ := hrel
    have HO : Hid (Below w.heap.size w wr ∧ wr.heap[w.heap.size]? = some (.cells zE 23 (0, 0))) := ⟨hbel, hblk⟩
    have HW : Hid (newL (l.drop k) key seq = (y, is)) := hnew
    obtain ⟨⟨z0, z1, z2, z3⟩, f0, f1, f2, f3⟩ := four hblk
    clear hbel hblk hnew HNW HR
    by_cases hkn : k < n
    · have hkI : (k : Int) < (n : Int) := by omega
      have hen := HE.out.1.below HO.out.1
      obtain ⟨be, oe, rfl⟩ := hen.addr (by have := HE.out.2; omega)
      obtain ⟨x0, x1, x2, x3⟩ := hen.at (k := k) (by have := HE.out.2; omega)
      obtain ⟨x, hx⟩ : ∃ x, l.getD k zeroE = x := ⟨_, rfl⟩
      rw [hx] at x0 x1 x2 x3
      have HNA := newL_at (l := l) (i := k) (by have := HE.out.2; omega) hx key seq
      obtain ⟨ke, ve, se, ge⟩ := x
      simp only at x0 x1 x2 x3
      have HNA' : Hid (newL (l.drop k) key seq = if ke = key ∧ se ≤ seq then (⟨ke, ve, se, ge⟩, true) else newL (l.drop (k + 1)) key seq) := HNA
      have HKN : Hid (k < n) := hkn
      clear hen hx HNA hkn
      by_cases hke : ke = key
      · have g4 : (ke.toList == key.toList) = true := by rw [eq_str]; simp [hke]
        by_cases hsq : se ≤ seq
        · have g5 : decide (se ≤ seq) = true := decide_eq_true hsq
          have HY : Hid (y = ⟨ke, ve, se, ge⟩ ∧ is = true) := by
            have := HW.out
            rw [HNA'.out, if_pos ⟨hke, hsq⟩] at this
            simp only [Prod.mk.injEq] at this
            exact ⟨this.1.symm, this.2.symm⟩
          clear hke
          go_wp2
          (try simp only [Exit.inBlock, Exit.then])
          refine bodyPost_ret (v := .tuple #[entV ⟨ke, ve, se, ge⟩, .bool true]) ?_ rfl ⟨by rw [HY.out.1, HY.out.2], ?_⟩
          · rw [results_cell_tmp rfl]
            go_simp
            rfl
          · exact set4_at HO.out.1 (Nat.le_refl _)
        · have g5 : decide (se ≤ seq) = false := decide_eq_false hsq
          have HN2 : Hid (newL (l.drop (k + 1)) key seq = (y, is)) := by
            have := HW.out
            rw [HNA'.out, if_neg (fun hh => hsq hh.2)] at this
            exact this
          clear hke hsq
          go_wp2
          go_roundw
          case rel => exact ⟨k + 1, by have := HKN.out; omega, by go_num, HN2.out, HO.out⟩
          case measure => have := HKN.out; simp [intOf]; omega
      · have g4 : (ke.toList == key.toList) = false := by rw [eq_str]; simp [hke]
        have HN2 : Hid (newL (l.drop (k + 1)) key seq = (y, is)) := by
          have := HW.out
          rw [HNA'.out, if_neg (fun hh => hke hh.1)] at this
          exact this
        clear hke
        go_wp2
        go_roundw
        case rel => exact ⟨k + 1, by have := HKN.out; omega, by go_num, HN2.out, HO.out⟩
        case measure => have := HKN.out; simp [intOf]; omega
    · have hkI : (n : Int) ≤ (k : Int) := by omega
      have HY : Hid (y = zeroE ∧ is = false) := by
        have := HW.out
        rw [List.drop_eq_nil_of_le (by have := HE.out.2; omega)] at this
        simp only [newL, Prod.mk.injEq] at this
        exact ⟨this.1.symm, this.2.symm⟩
      go_wp2
      (try simp only [Exit.inBlock, Exit.then])
      refine bodyPost_ret (v := .tuple #[entV zeroE, .bool false]) ?_ rfl ⟨by rw [HY.out.1, HY.out.2], ?_⟩
      · rw [results_cell_tmp rfl]
        go_simp
        rfl
      · exact set4_at HO.out.1 (Nat.le_refl _)
end Go.Proofs.Ytbnacopefclklaa
namespace Go.Proofs.Ytbnacopefclklaa
open Go.RowKit Go.WideShapes

/-- A row as a value, and its entries. -/
structure RV where
  q : Option Addr
  n : Nat
  c : Nat
  l : List EntV
def zR : RV := ⟨none, 0, 0, []⟩
def rvV (r : RV) : Value := .slice r.q r.n r.c
def headR (r : RV) : EntV := r.l.getD 0 zeroE
def ltR (a b : RV) : Bool := lessE (headR a) (headR b)
theorem lessE_irr (a : EntV) : lessE a a = false := lessE_same ⟨rfl, rfl⟩
theorem ltR_asym (a b : RV) (h : ltR a b = true) : ltR b a = false := lessE_asymm h
theorem ltR_trans (a b c : RV) (h1 : ltR b a = false) (h2 : ltR c b = false) : ltR c a = false := weak_trans h1 h2
theorem ltR_irr (a : RV) : ltR a a = false := lessE_irr _
structure RowOk (w : World) (r : RV) : Prop where
  n : r.n = r.l.length
  lies : EntsIn w r.q r.l
  nc : r.n ≤ r.c
  c : r.c ≤ maxLen
  q : r.q = none → r.c = 0
theorem RowOk.below {w w' : World} {r : RV} (h : RowOk w r) (hb : Below w.heap.size w w') : RowOk w' r := ⟨h.n, h.lies.below hb, h.nc, h.c, h.q⟩
/-- What is left as it was: all memory but that of rows. -/
structure KeptR (w w' : World) : Prop where
  size : w.heap.size ≤ w'.heap.size
  typ : ∀ (b : Nat) (cs : Array Value) (t : TypeId) (fr : Nat × Nat), w.heap[b]? = some (.cells cs t fr) → t ≠ 25 → t ≠ 68 → w'.heap[b]? = some (.cells cs t fr)
theorem KeptR.refl (w : World) : KeptR w w := ⟨Nat.le_refl _, fun _ _ _ _ h _ _ => h⟩
theorem KeptR.trans {a b c : World} (h : KeptR a b) (k : KeptR b c) : KeptR a c := ⟨Nat.le_trans h.size k.size, fun _ _ _ _ e h1 h2 => k.typ _ _ _ _ (h.typ _ _ _ _ e h1 h2) h1 h2⟩
theorem block_belowR {w w' : World} {b : Nat} {o : Obj} (h : w.heap[b]? = some o) (hb : Below w.heap.size w w') : w'.heap[b]? = some o := (hb.block _ (lt_heap h)).trans h
theorem keptR_below {w w' : World} (h : Below w.heap.size w w') : KeptR w w' := ⟨h.size, fun _ _ _ _ e _ _ => block_belowR e h⟩
theorem keptR_set {w : World} {b o : Nat} {cs : Array Value} {t : TypeId} {fr : Nat × Nat} (h : w.heap[b]? = some (.cells cs t fr)) (ht : t = 25 ∨ t = 68) (v : Value) : KeptR w (w.setCell ⟨b, o, none⟩ v) := by
  have h0 : Below b w (w.setCell ⟨b, o, none⟩ v) := (Below.refl b w).setCell (p := ⟨b, o, none⟩) (Nat.le_refl b) v
  refine ⟨h0.size, fun b' cs' t' fr' e h1 h2 => (heap_setCell_other w ⟨b, o, none⟩ b' v ?_).trans e⟩
  intro hbb
  have hbb' : b' = b := hbb
  subst hbb'
  rw [h] at e
  simp only [Option.some.injEq, Obj.cells.injEq] at e
  rcases ht with ht | ht
  · exact h1 (e.2.1.symm.trans ht)
  · exact h2 (e.2.1.symm.trans ht)
/-- A heap of rows behind a pointer. -/
structure Hp (w0 : World) (bh : Nat) (hv : Value) (R : List RV) (w : World) : Prop where
  bel : Below w0.heap.size w0 w
  bhb : w0.heap.size ≤ bh
  ptr : w.heap[bh]? = some (.cells #[hv] 68 (0, 0))
  own : w.ownsRow w0.heap.size 25 1 hv R.length (R.map rvV)
  rows : ∀ r ∈ R, RowOk w0 r ∧ 0 < r.l.length
theorem Hp.next {w0 w w' : World} {bh : Nat} {hv : Value} {R : List RV} (h : Hp w0 bh hv R w) (hb : Below w.heap.size w w') : Hp w0 bh hv R w' := ⟨below_bt h.bel hb, h.bhb, block_belowR h.ptr hb, own_below h.own hb, h.rows⟩
theorem Hp.drew {w0 w : World} {bh : Nat} {hv : Value} {R : List RV} (h : Hp w0 bh hv R w) : Hp w0 bh hv R w.drew := h.next (Below.refl _ _).drew
theorem getR_mem {R : List RV} {k : Nat} (hk : k < R.length) : R.getD k zR ∈ R := by
  rw [List.getD_eq_getElem?_getD, List.getElem?_eq_getElem hk]; exact List.getElem_mem _
theorem mapR_at {R : List RV} {k : Nat} (hk : k < R.length) : (R.map rvV)[k]? = some (rvV (R.getD k zR)) := by
  rw [List.getElem?_map, List.getD_eq_getElem?_getD, List.getElem?_eq_getElem hk]; rfl
theorem Hp.form {w0 w : World} {bh : Nat} {hv : Value} {R : List RV} (h : Hp w0 bh hv R w) (hp : 0 < R.length) : ∃ g cap cur, hv = .slice (some ⟨g, 0, none⟩) R.length cap ∧ w0.heap.size ≤ g ∧ w.heap[g]? = some (.cells cur 25 (0, 0)) ∧ R.length ≤ cap ∧ cap ≤ maxLen ∧ (∀ i, i < R.length → w.cell? ⟨g, i, none⟩ = some (rvV (R.getD i zR))) ∧ ∀ i, w.frozen? ⟨g, i, none⟩ = false := by
  have h0 := h.own
  rcases h.own.2 with ⟨_, hn⟩ | ⟨g, cap, cur, hv', hb, hg, hle, hmax, hsz, htk⟩
  · omega
  · subst hv'
    exact ⟨g, cap, cur, rfl, hb, hg, hle, hmax, fun i hi => (World.ownsRow.cellAt h0 i (by omega)).trans (mapR_at hi), fun i => World.ownsRow.frozenAt h0 i⟩
theorem Hp.row {w0 w : World} {bh : Nat} {hv : Value} {R : List RV} (h : Hp w0 bh hv R w) {i : Nat} (hi : i < R.length) : ∃ (b o n c : Nat) (k v : ByteArray) (s : Int) (d : Bool), rvV (R.getD i zR) = .slice (some ⟨b, o, none⟩) n c ∧ 0 < n ∧ headR (R.getD i zR) = ⟨k, v, s, d⟩ ∧ C4 w b o (.string k) (.string v) (.int .i64 s) (.bool d) := by
  obtain ⟨hr, hp⟩ := h.rows _ (getR_mem hi)
  obtain ⟨⟨q, n, c, l⟩, hR⟩ : ∃ r, R.getD i zR = r := ⟨_, rfl⟩
  rw [hR] at hr hp ⊢
  simp only at hp
  obtain ⟨b, o, rfl⟩ := hr.lies.addr hp
  have h4 := (hr.lies.below h.bel).at (k := 0) hp
  obtain ⟨⟨k, v, s, d⟩, hy⟩ : ∃ y, l.getD 0 zeroE = y := ⟨_, rfl⟩
  rw [hy] at h4
  simp only [Nat.zero_mul, Nat.add_zero] at h4
  exact ⟨b, o, n, c, k, v, s, d, rfl, by have := hr.n; simp only at this; omega, hy, h4⟩
theorem Hp.set {w0 w : World} {bh g cap : Nat} {R : List RV} (h : Hp w0 bh (.slice (some ⟨g, 0, none⟩) R.length cap) R w) {i : Nat} (hi : i < R.length) (r : RV) (hr : RowOk w0 r ∧ 0 < r.l.length) : Hp w0 bh (.slice (some ⟨g, 0, none⟩) R.length cap) (R.set i r) (w.setCell ⟨g, i, none⟩ (rvV r)) := by
  obtain ⟨g', cap', cur, e, hb, hg, _⟩ := h.form (by omega)
  simp only [Value.slice.injEq, Option.some.injEq, Addr.mk.injEq] at e
  obtain ⟨⟨rfl, _⟩, _, rfl⟩ := e
  have hne : bh ≠ g := by
    intro e
    subst e
    have := h.ptr
    rw [hg] at this
    simp at this
  refine ⟨h.bel.setCell (p := ⟨g, i, none⟩) hb _, h.bhb, ?_, ?_, fun x hx => ?_⟩
  · rw [heap_setCell_other w ⟨g, i, none⟩ bh _ hne]; exact h.ptr
  · have := World.ownsRow.stored h.own i (rvV r)
    rw [List.length_set, List.map_set]
    exact this.1
  · rcases List.mem_or_eq_of_mem_set hx with hx | rfl
    · exact h.rows x hx
    · exact hr
theorem Hp.swap {w0 w : World} {bh g cap : Nat} {R : List RV} (h : Hp w0 bh (.slice (some ⟨g, 0, none⟩) R.length cap) R w) {i j : Nat} (hi : i < R.length) (hj : j < R.length) : Hp w0 bh (.slice (some ⟨g, 0, none⟩) R.length cap) (swp zR R i j) ((w.setCell ⟨g, i, none⟩ (rvV (R.getD j zR))).setCell ⟨g, j, none⟩ (rvV (R.getD i zR))) := by
  have h1 := h.set hi (R.getD j zR) (h.rows _ (getR_mem hj))
  have e : (R.set i (R.getD j zR)).length = R.length := List.length_set
  rw [← e] at h1
  have h2 := h1.set (i := j) (by rw [e]; exact hj) (R.getD i zR) (h.rows _ (getR_mem hi))
  rw [e] at h2
  exact h2
theorem Hp.keptS {w0 w : World} {bh g cap : Nat} {R : List RV} (h : Hp w0 bh (.slice (some ⟨g, 0, none⟩) R.length cap) R w) (hp : 0 < R.length) (i : Nat) (v : Value) : KeptR w (w.setCell ⟨g, i, none⟩ v) := by
  obtain ⟨g', cap', cur, e, hb, hg, _⟩ := h.form hp
  simp only [Value.slice.injEq, Option.some.injEq, Addr.mk.injEq] at e
  obtain ⟨⟨rfl, _⟩, _, rfl⟩ := e
  exact keptR_set hg (.inl rfl) v
end Go.Proofs.Ytbnacopefclklaa
namespace Go.Proofs.Ytbnacopefclklaa
open Go.RowKit Go.WideShapes

theorem cell_below {w w' : World} {a : Addr} {v : Value} (h : w.cell? a = some v) (hb : Below w.heap.size w w') : w'.cell? a = some v := (hb.cell (World.block_lt_of_cell? _ _ h)).trans h
set_option maxHeartbeats 1000000 in
theorem hLess_any (w0 : World) (bh : Nat) (hv : Value) (R : List RV) (w : World) (h : Hp w0 bh hv R w) (i j : Nat) (hi : i < R.length) (hj : j < R.length) (r : Bool) (hr : ltR (R.getD i zR) (R.getD j zR) = r) :
    Calls Try.prog 65 #[hv, .int .i64 (i : Int), .int .i64 (j : Int)] w fun e w' => e = .returned (.bool r) ∧ Below w.heap.size w w' := by
  obtain ⟨g, cap, cur, rfl, hgb, hg, hle, hmax, hc, hf⟩ := h.form (by omega)
  obtain ⟨b1, o1, n1, c1, k1, v1, s1, d1, e1, p1, y1, q1⟩ := h.row hi
  obtain ⟨b2, o2, n2, c2, k2, v2, s2, d2, e2, p2, y2, q2⟩ := h.row hj
  have HLE := fun w' => less_any ⟨k1, v1, s1, d1⟩ ⟨k2, v2, s2, d2⟩ w'
  have h1 := hc i hi
  have h2 := hc j hj
  rw [e1] at h1
  rw [e2] at h2
  unfold ltR at hr
  rw [y1, y2] at hr
  rw [hr, entV_def, entV_def] at HLE
  obtain ⟨m, hm⟩ : ∃ m, R.length = m := ⟨_, rfl⟩
  have i0 : (0 : Int) ≤ (i : Int) := by omega
  have j0 : (0 : Int) ≤ (j : Int) := by omega
  rw [hm] at hi hj ⊢
  have i1 : (i : Int) < (m : Int) := by omega
  have j1 : (j : Int) < (m : Int) := by omega
  have n1' : (0 : Int) < (n1 : Int) := by omega
  have n2' : (0 : Int) < (n2 : Int) := by omega
  have H1 : Hid (w.cell? ⟨g, i, none⟩ = some (.slice (some ⟨b1, o1, none⟩) n1 c1)) := h1
  have H2 : Hid (w.cell? ⟨g, j, none⟩ = some (.slice (some ⟨b2, o2, none⟩) n2 c2)) := h2
  have Q1 : Hid (C4 w b1 o1 (.string k1) (.string v1) (.int .i64 s1) (.bool d1)) := q1
  have Q2 : Hid (C4 w b2 o2 (.string k2) (.string v2) (.int .i64 s2) (.bool d2)) := q2
  clear h1 h2 q1 q2 e1 e2 y1 y2 hr hc hf hg h hle hmax hgb hm hi hj
  go_enter Try.func65, Try.ntmps65
  go_wp2
  go_region_held3 (fun w' => (w'.cell? ⟨g, i, none⟩ = some (.slice (some ⟨b1, o1, none⟩) n1 c1)) ∧ (w'.cell? ⟨g, j, none⟩ = some (.slice (some ⟨b2, o2, none⟩) n2 c2)) ∧ (w'.cell? ⟨b1, o1, none⟩ = some (.string k1) ∧ w'.cell? ⟨b1, o1 + 1, none⟩ = some (.string v1) ∧ w'.cell? ⟨b1, o1 + 2, none⟩ = some (.int .i64 s1) ∧ w'.cell? ⟨b1, o1 + 3, none⟩ = some (.bool d1)) ∧ (w'.cell? ⟨b2, o2, none⟩ = some (.string k2) ∧ w'.cell? ⟨b2, o2 + 1, none⟩ = some (.string v2) ∧ w'.cell? ⟨b2, o2 + 2, none⟩ = some (.int .i64 s2) ∧ w'.cell? ⟨b2, o2 + 3, none⟩ = some (.bool d2)) ∧ Below w.heap.size w w')
    (with_reducible first | exact ⟨H1.out, H2.out, Q1.out, Q2.out, Below.refl _ _⟩ | exact ⟨cell_below H1.out (Below.refl _ _).drew, cell_below H2.out (Below.refl _ _).drew, c4_below Q1.out (Below.refl _ _).drew, c4_below Q2.out (Below.refl _ _).drew, (Below.refl _ _).drew⟩ | exact ⟨cell_below H1.out (below_dw (by assumption)), cell_below H2.out (below_dw (by assumption)), c4_below Q1.out (below_dw (by assumption)), c4_below Q2.out (below_dw (by assumption)), below_dw (by assumption)⟩ | assumption)
    (first
      | (go_at_call 25; refine (HLE _).mono ?_; rintro e w3 ⟨rfl, hb3⟩)
      | fail)
  rename_i hh
  have HB3 : Hid (Below w.heap.size w w3) := hh.2.2.2.2
  clear hh
  go_wp2
  go_ret
  exact ⟨rfl, HB3.out⟩
set_option maxHeartbeats 1000000 in
theorem hSwap_any (w0 : World) (bh : Nat) (hv : Value) (R : List RV) (w : World) (h : Hp w0 bh hv R w) (i j : Nat) (hi : i < R.length) (hj : j < R.length) :
    Calls Try.prog 68 #[hv, .int .i64 (i : Int), .int .i64 (j : Int)] w fun e w' => e = .returned (.tuple #[]) ∧ Hp w0 bh hv (swp zR R i j) w' ∧ KeptR w w' := by
  obtain ⟨g, cap, cur, rfl, hgb, hg, hle, hmax, hc, hf⟩ := h.form (by omega)
  have h1 := hc i hi
  have h2 := hc j hj
  have f1 := hf i
  have f2 := hf j
  obtain ⟨⟨q1, n1, c1, l1⟩, hV1⟩ : ∃ V, R.getD i zR = V := ⟨_, rfl⟩
  obtain ⟨⟨q2, n2, c2, l2⟩, hV2⟩ : ∃ V, R.getD j zR = V := ⟨_, rfl⟩
  have hX := h.swap hi hj
  rw [hV1, hV2, show rvV ⟨q1, n1, c1, l1⟩ = .slice q1 n1 c1 from rfl, show rvV ⟨q2, n2, c2, l2⟩ = .slice q2 n2 c2 from rfl] at hX
  have HX : Hid (Hp w0 bh (.slice (some ⟨g, 0, none⟩) R.length cap) (swp zR R i j) ((w.setCell ⟨g, i, none⟩ (.slice q2 n2 c2)).setCell ⟨g, j, none⟩ (.slice q1 n1 c1))) := hX
  obtain ⟨m, hm⟩ : ∃ m, R.length = m := ⟨_, rfl⟩
  rw [hV1, show rvV ⟨q1, n1, c1, l1⟩ = .slice q1 n1 c1 from rfl] at h1
  rw [hV2, show rvV ⟨q2, n2, c2, l2⟩ = .slice q2 n2 c2 from rfl] at h2
  rw [hm] at HX hi hj ⊢
  have i0 : (0 : Int) ≤ (i : Int) := by omega
  have j0 : (0 : Int) ≤ (j : Int) := by omega
  have i1 : (i : Int) < (m : Int) := by omega
  have j1 : (j : Int) < (m : Int) := by omega
  have HG : Hid (w.heap[g]? = some (.cells cur 25 (0, 0))) := hg
  obtain ⟨V3, h3⟩ : ∃ V, (w.setCell ⟨g, i, none⟩ (.slice q2 n2 c2)).cell? ⟨g, j, none⟩ = some V := by
    by_cases e : i = j
    · subst e
      exact ⟨_, World.cell?_setCell_same _ _ _ h1⟩
    · exact ⟨_, (World.cell?_setCell_other _ _ _ _ (fun h => e (by injection h))).trans h2⟩
  have f3 : (w.setCell ⟨g, i, none⟩ (.slice q2 n2 c2)).frozen? ⟨g, j, none⟩ = false := by rw [World.frozen?_setCell]; exact f2
  clear hc hf hV1 hV2 hm hi hj h hg hle hmax hgb hX
  go_enter Try.func68, Try.ntmps68
  go_wp2
  go_region
  all_goals go_wp2
  all_goals go_end0
  all_goals exact ⟨rfl, HX.out.drew, (keptR_set HG.out (.inl rfl) _).trans ((keptR_set (heap_setCell_same w g i cur _ _ HG.out) (.inl rfl) _).trans (keptR_below (Below.refl _ _).drew))⟩
end Go.Proofs.Ytbnacopefclklaa
namespace Go.Proofs.Ytbnacopefclklaa
open Go.RowKit Go.WideShapes

theorem meth_less0 (a : Addr) (w : World) : (Go.method 199 67 (.pointer (some a)) "Less").run Try.prog w = ((receiverAt 67 (.val (.pointer (some a))) false (some "Less")) >>= fun r => pure (65, r)).run Try.prog w := by kernel_rfl
theorem meth_swap0 (a : Addr) (w : World) : (Go.method 199 67 (.pointer (some a)) "Swap").run Try.prog w = ((receiverAt 67 (.val (.pointer (some a))) false (some "Swap")) >>= fun r => pure (68, r)).run Try.prog w := by kernel_rfl
theorem meth_len0 (a : Addr) (w : World) : (Go.method 199 67 (.pointer (some a)) "Len").run Try.prog w = ((receiverAt 67 (.val (.pointer (some a))) false (some "Len")) >>= fun r => pure (41, r)).run Try.prog w := by kernel_rfl
theorem meth_push (a : Addr) (w : World) : (Go.method 199 67 (.pointer (some a)) "Push").run Try.prog w = .ok (67, .pointer (some a)) w := by kernel_rfl
theorem meth_pop (a : Addr) (w : World) : (Go.method 199 67 (.pointer (some a)) "Pop").run Try.prog w = .ok (66, .pointer (some a)) w := by kernel_rfl
theorem load_heads (q : Option Addr) (n c b : Nat) (w : World) (h : w.cell? ⟨b, 0, none⟩ = some (.slice q n c)) : (loadVar 68 ⟨b, 0, none⟩).run Try.prog w = .ok (.slice q n c) w := by
  go_simp
theorem recv_heads (q : Option Addr) (n c b : Nat) (w : World) (nm : String) (h : w.cell? ⟨b, 0, none⟩ = some (.slice q n c)) : (receiverAt 67 (.val (.pointer (some ⟨b, 0, none⟩))) false (some nm)).run Try.prog w = .ok (.slice q n c) w := by
  unfold receiverAt
  go_simp
  rw [show (Sem.run Try.prog (Place.get 67 (Place.val (Value.pointer (some ⟨b, 0, none⟩)))) w) = .ok (Value.pointer (some ⟨b, 0, none⟩)) w from rfl]
  simp only [Result.andThen_ok]
  rw [show (Sem.run Try.prog (Builtin.ssaWrapNilChk_ #[67] 67 #[Value.pointer (some ⟨b, 0, none⟩), strVal "", strVal nm]) w) = .ok (Value.pointer (some ⟨b, 0, none⟩)) w from rfl]
  simp only [Result.andThen_ok, Sem.run_pure, h]
theorem meth_less (q : Option Addr) (n c b : Nat) (w : World) (h : w.cell? ⟨b, 0, none⟩ = some (.slice q n c)) : (Go.method 199 67 (.pointer (some ⟨b, 0, none⟩)) "Less").run Try.prog w = .ok (65, .slice q n c) w := by rw [meth_less0, Sem.run_bind, recv_heads q n c b w _ h]; rfl
theorem meth_swap (q : Option Addr) (n c b : Nat) (w : World) (h : w.cell? ⟨b, 0, none⟩ = some (.slice q n c)) : (Go.method 199 67 (.pointer (some ⟨b, 0, none⟩)) "Swap").run Try.prog w = .ok (68, .slice q n c) w := by rw [meth_swap0, Sem.run_bind, recv_heads q n c b w _ h]; rfl
theorem meth_len (q : Option Addr) (n c b : Nat) (w : World) (h : w.cell? ⟨b, 0, none⟩ = some (.slice q n c)) : (Go.method 199 67 (.pointer (some ⟨b, 0, none⟩)) "Len").run Try.prog w = .ok (41, .slice q n c) w := by rw [meth_len0, Sem.run_bind, recv_heads q n c b w _ h]; rfl
theorem Hp.val {w0 w : World} {bh : Nat} {hv : Value} {R : List RV} (h : Hp w0 bh hv R w) : ∃ q c, hv = .slice q R.length c ∧ R.length ≤ c ∧ c ≤ maxLen := by
  obtain ⟨q, m, h1, h2, h3, _⟩ := own_form h.own
  exact ⟨q, m, h1, h2, h3⟩
end Go.Proofs.Ytbnacopefclklaa
namespace Go.Proofs.Ytbnacopefclklaa
open Go.RowKit Go.WideShapes

set_option maxHeartbeats 1000000 in
theorem up_any (w0 : World) (bh : Nat) (hv : Value) (R : List RV) (w : World) (h : Hp w0 bh hv R w) (j : Nat) (hj : j < R.length) (hu : UpOk zR ltR R j) (hlen : R.length ≤ 1000) :
    Calls Try.prog 45 #[.iface 67 (.pointer (some ⟨bh, 0, none⟩)), .int .i64 (j : Int)] w fun e w' => e = .returned (.tuple #[]) ∧ ∃ R', R'.Perm R ∧ Heap zR ltR R' ∧ Hp w0 bh hv R' w' ∧ KeptR w w' := by
  obtain ⟨q, c, rfl, _, _⟩ := h.val
  obtain ⟨m, hm⟩ : ∃ m, R.length = m := ⟨_, rfl⟩
  rw [hm] at h ⊢
  obtain ⟨hv, hhv⟩ : ∃ hv, Value.slice q m c = hv := ⟨_, rfl⟩
  rw [hhv] at h ⊢
  have H0 : Hid (Hp w0 bh hv R w ∧ UpOk zR ltR R j ∧ j < R.length ∧ R.length ≤ 1000) := ⟨h, hu, hj, hlen⟩
  clear h hu hj hlen hm
  go_enter Try.func45, Try.ntmps45
  go_wp2
  go_loopw [1] (fun s1 wr => ∃ (k : Nat) (Rk : List RV), s1 = .int .i64 (k : Int) ∧ k < Rk.length ∧ Rk.Perm R ∧ UpOk zR ltR Rk k ∧ Hp w0 bh hv Rk wr ∧ KeptR w wr) (fun s1 _ => (intOf s1).toNat)
  case atStart => exact ⟨j, R, rfl, H0.out.2.2.1, List.Perm.refl _, H0.out.2.1, H0.out.1, KeptR.refl _⟩
  case round =>
    obtain ⟨k, Rk, rfl, hk, hp, hu, hon, hkp⟩ := hrel
    have HK : Hid (k < Rk.length ∧ Rk.Perm R ∧ UpOk zR ltR Rk k ∧ Rk.length ≤ 1000) := ⟨hk, hp, hu, by rw [hp.length_eq]; exact H0.out.2.2.2⟩
    have HO : Hid (Hp w0 bh hv Rk wr ∧ KeptR w wr) := ⟨hon, hkp⟩
    have kI : (k : Int) ≤ 1000 := by have := HK.out; omega
    clear hk hp hu hkp
    by_cases hk0 : k = 0
    · subst hk0
      clear hon
      rw [show ((0 : Nat) : Int) = 0 from rfl]
      go_wp2
      go_end0
      exact ⟨rfl, Rk, HK.out.2.1, up_end HK.out.2.2.1 (.inl rfl), HO.out⟩
    · have HK0 : Hid (0 < k) := by show _ < _; omega
      obtain ⟨i, hi⟩ : ∃ i, (k - 1) / 2 = i := ⟨_, rfl⟩
      have HI : Hid ((k - 1) / 2 = i) := hi
      have qd : ((k : Int) - 1).tdiv 2 = (i : Int) := by rw [show ((k : Int) - 1) = ((k - 1 : Nat) : Int) by omega, ← hi]; rfl
      have kw1 : IntKind.i64.wrap ((k : Int) - 1) = (k : Int) - 1 := by rw [IntKind.wrap_i64]; omega
      have kw2 : IntKind.i64.wrap (i : Int) = (i : Int) := by rw [IntKind.wrap_i64]; omega
      have kne : ((i : Int) == (k : Int)) = false := by simp; omega
      have kne' : (i == k) = false := by simp; omega
      have hme := meth_less q m c bh wr (by rw [hhv]; exact Lib.cell_of_heap hon.ptr 0)
      rw [hhv] at hme
      obtain ⟨r, hr⟩ : ∃ r, ltR (Rk.getD k zR) (Rk.getD i zR) = r := ⟨_, rfl⟩
      have HLE := hLess_any w0 bh hv Rk wr hon k i HK.out.1 (by have := HK.out; omega) r hr
      have HR : Hid (ltR (Rk.getD k zR) (Rk.getD i zR) = r) := hr
      clear hon hk0 hi hr
      go_wp2_with fail
      refine HLE.mono ?_
      rintro e w2 ⟨rfl, hb2⟩
      have H2 : Hid (Hp w0 bh hv Rk w2 ∧ KeptR w w2) := ⟨HO.out.1.next hb2, HO.out.2.trans (keptR_below hb2)⟩
      clear hb2 HLE hme
      cases r with
      | false =>
        go_wp2
        go_end0
        exact ⟨rfl, Rk, HK.out.2.1, up_end HK.out.2.2.1 (.inr (by rw [HI.out]; exact HR.out)), H2.out⟩
      | true =>
        have hme := meth_swap q m c bh w2 (by rw [hhv]; exact Lib.cell_of_heap H2.out.1.ptr 0)
        rw [hhv] at hme
        have HSW := hSwap_any w0 bh hv Rk w2 H2.out.1 i k (by have := HK.out; have := HI.out; omega) HK.out.1
        go_wp2_with fail
        refine HSW.mono ?_
        rintro e w3 ⟨rfl, h3, k3⟩
        have H3 : Hid (Hp w0 bh hv (swp zR Rk i k) w3 ∧ KeptR w w3) := ⟨h3, H2.out.2.trans k3⟩
        clear h3 k3 HSW hme
        go_wp2
        go_roundw
        case rel =>
          have hik : i < Rk.length := by have := HK.out.1; have := HI.out; omega
          refine ⟨i, swp zR Rk i k, rfl, by rw [swp_length]; exact hik, (swp_perm zR hik HK.out.1).trans HK.out.2.1, ?_, H3.out⟩
          have := up_step ltR_asym ltR_trans HK.out.1 HK0.out HK.out.2.2.1 (by rw [HI.out]; exact HR.out)
          rwa [HI.out] at this
        case measure => have := HI.out; have := HK0.out; simp [intOf]; omega
end Go.Proofs.Ytbnacopefclklaa
