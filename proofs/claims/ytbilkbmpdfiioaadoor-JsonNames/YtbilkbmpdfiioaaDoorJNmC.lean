/-
  The limits' numbers and the chapter's examples: JsonNames returns true.
-/
import Derived.Test.YtbilkbmpdfiioaaDoorJBk
import Derived.Test.YtbilkbmpdfiioaaDoorRows
import Derived.Test.YtbilkbmpdfiioaaDoorJPl
import Derived.Test.YtbilkbmpdfiioaaDoorTie
import Derived.Test.YtbilkbmpdfiioaaDoorCards
import Derived.SevenTiedAt
import Derived.WalkKit
import Derived.ProofKit
import Derived.OpenShut
import Derived.ShutString
import Derived.ChangeOld
import Derived.Below
namespace Go.Proofs.YtbilkbmpdfiioaaDoor
open Go.RowKit Go.WideShapes Go.Joins

/-- a text that is refused there, by that error -/
theorem refusedL_any (s : ByteArray) (n e : Nat) (r : List Nat) (hs : s.size ≤ 16384) (hr : J.read FF (numsOf s) = .bad e r) (hn : s.size - r.length = n) (w : World) (h8 : 8 ≤ w.heap.size) (hL : Laid w) :
    Calls Tryd.prog 10 #[.string s, .int .i64 (n : Int), .int .i64 (e : Int)] w fun ed w' => ed = .returned (.bool true) ∧ Below w.heap.size w w' := by
  have R := Read_any FF (Nat.le_refl _) s w h8 hL
  have HH : Hid (s.size ≤ 16384 ∧ J.read FF (numsOf s) = .bad e r ∧ s.size - r.length = n) := ⟨hs, hr, hn⟩
  have hnn : ((n : Int) == (n : Int)) = true := beq_self_eq_true _
  have hee : ((e : Int) == (e : Int)) = true := beq_self_eq_true _
  clear h8 hL hs hr hn
  go_enter Tryd.func10, Tryd.ntmps10
  go_wp2_with fail
  refine R.mono ?_
  rintro ed w1 ⟨A, x, n', k', rfl, hJ, hb, _, h2⟩
  have h2 := h2 HH.out.1
  rw [HH.out.2.1] at h2
  obtain ⟨e1, e2, _⟩ := h2
  rw [HH.out.2.2] at e2
  obtain ⟨kk, bb, nn, tt, qn, nl, nc, qi, il, ic, rfl⟩ := jin_form hJ
  have B2 := hb.alloc hb.size (.cells (jA kk bb nn tt qn nl nc qi il ic) 25)
  rw [e1, e2]
  unfold jA at B2 ⊢
  clear R e1 e2 hJ hb
  simp only []
  go_wp2
  go_ret
  exact ⟨rfl, B2⟩
def nmS1 : ByteArray := ⟨#[91, 49, 44, 32, 45, 48, 44, 32, 49, 46, 48, 44, 32, 57, 50, 50, 51, 51, 55, 50, 48, 51, 54, 56, 53, 52, 55, 55, 53, 56, 48, 56, 93]⟩
def nmV1 : JB := .mk 5 false 0 ⟨#[]⟩ [] [.mk 2 false 1 ⟨#[]⟩ [] [], .mk 3 false 0 ⟨#[45, 48]⟩ [] [], .mk 3 false 0 ⟨#[49, 46, 48]⟩ [] [], .mk 3 false 0 ⟨#[57, 50, 50, 51, 51, 55, 50, 48, 51, 54, 56, 53, 52, 55, 55, 53, 56, 48, 56]⟩ [] []]
theorem nm_read1 : J.read FF (numsOf nmS1) = .ok nmV1.toJ [] := by kernel_rfl
theorem nm_bad1 : J.read FF (numsOf ⟨#[123, 34, 97, 34, 58, 49, 44, 34, 97, 34, 58, 50, 125]⟩) = .bad 160 [34, 58, 50, 125] := by kernel_rfl
theorem nm_bad2 : J.read FF (numsOf ⟨#[91, 49, 44, 93]⟩) = .bad 160 [93] := by kernel_rfl
theorem nm_bad3 : J.read FF (numsOf ⟨#[48, 49]⟩) = .bad 160 [49] := by kernel_rfl
theorem nm_bad4 : J.read FF (numsOf ⟨#[34, 92, 117, 100, 56, 48, 48, 120, 34]⟩) = .bad 160 [120, 34] := by kernel_rfl
theorem nm_bad5 : J.read FF (numsOf ⟨#[91]⟩) = .bad 160 [] := by kernel_rfl
def nmS2 : ByteArray := ⟨#[34, 92, 117, 100, 56, 51, 100, 92, 117, 100, 101, 48, 48, 34]⟩
def nmV2 : JB := .mk 4 false 0 ⟨#[240, 159, 152, 128]⟩ [] []
theorem nm_read2 : J.read FF (numsOf nmS2) = .ok nmV2.toJ [] := by kernel_rfl
/-- a text that is read: the value itself -/
structure ExactP (x : JB) (w : World) (e : Ending) (w' : World) : Prop where
  ex : ∃ A : Array Value, e = .returned (.tuple #[.agg A, .int .i64 0, .int .i64 0]) ∧ Below w.heap.size w w' ∧ JIn w' Anyw A x
theorem Read_exact (s : ByteArray) (x : JB) (r : List Nat) (hs : s.size ≤ 16384) (hr : J.read FF (numsOf s) = .ok x.toJ r) (w : World) (h8 : 8 ≤ w.heap.size) (hL : Laid w) :
    Calls Tryd.prog 9 #[.string s] w fun e w' => ExactP x w e w' := by
  refine (Read_any FF (Nat.le_refl _) s w h8 hL).mono ?_
  rintro e w' ⟨A, y, n, k, rfl, hJ, hb, _, h2⟩
  have h2 := h2 hs
  rw [hr] at h2
  obtain ⟨rfl, rfl, hy⟩ := h2
  obtain rfl := toJ_inj _ _ hy
  exact ⟨A, rfl, hb, hJ.any⟩
theorem items_at {w : World} {A : Array Value} {k : Nat} {b : Bool} {n : Int} {t : ByteArray} {ns : List ByteArray} {vs : List JB} (h : JIn w Anyw A (.mk k b n t ns vs)) (hp : 0 < vs.length) :
    ∃ nq nc ib io ic, A = jA k b n t nq ns.length nc (some ⟨ib, io, none⟩) vs.length ic ∧ ∀ i x, vs[i]? = some x → w.cell? ⟨ib, io + i * 6, none⟩ = some (.int .u8 (x.kind : Int)) ∧ w.cell? ⟨ib, io + i * 6 + 2, none⟩ = some (.int .i64 x.int) ∧ w.cell? ⟨ib, io + i * 6 + 3, none⟩ = some (.string x.text) := by
  generalize hv : JB.mk k b n t ns vs = v at h
  cases h with
  | mk k' b' n' t' ns' vs' nq iq nc ic F hk hn hnc hic hnm him hnq hiq hN hI hR =>
    cases hv
    obtain ⟨ib, io, rfl⟩ := hI.addr hp
    refine ⟨nq, nc, ib, io, ic, rfl, fun i x hx => ?_⟩
    have hil : i < vs.length := by
      rcases Nat.lt_or_ge i vs.length with h' | h'
      · exact h'
      · rw [List.getElem?_eq_none h'] at hx; cases hx
    have hc := (hI.at hil).2
    have hJ := hR i x hx
    generalize F i = G at hc hJ
    cases hJ with
    | mk k2 b2 n2 t2 ns2 vs2 nq2 iq2 nc2 ic2 F2 =>
      exact ⟨hc 0 (by omega), hc 2 (by omega), hc 3 (by omega)⟩
theorem flat_exact {w : World} {A : Array Value} {k : Nat} {b : Bool} {n : Int} {t : ByteArray} (h : JIn w Anyw A (.mk k b n t [] [])) : ∃ q1 c1 q2 c2, A = jA k b n t q1 0 c1 q2 0 c2 := by
  generalize hv : JB.mk k b n t [] [] = v at h
  cases h with
  | mk k' b' n' t' ns' vs' nq iq nc ic F hk hn hnc hic hnm him hnq hiq hN hI hR =>
    cases hv
    exact ⟨_, _, _, _, rfl⟩
theorem chk_t1 : chkB (.mk 4 false 0 ⟨#[1, 47]⟩ [] []) 1 = 0 := by kernel_rfl
theorem chk_t2 : chkB (.mk 3 false 0 ⟨#[49]⟩ [] []) 1 = 8 := by kernel_rfl
theorem chk_t3 : chkB (.mk 3 false 0 ⟨#[49, 46, 53, 48]⟩ [] []) 1 = 0 := by kernel_rfl
theorem wr_t1 : J.written (JB.mk 4 false 0 ⟨#[1, 47]⟩ [] []).toJ = numsOf ⟨#[34, 92, 117, 48, 48, 48, 49, 47, 34]⟩ := by kernel_rfl
theorem wr_t3 : J.written (JB.mk 3 false 0 ⟨#[49, 46, 53, 48]⟩ [] []).toJ = numsOf ⟨#[49, 46, 53, 48]⟩ := by kernel_rfl
theorem Text_exact (A : Array Value) (x : JB) (t : ByteArray) (w : World) (h8 : 8 ≤ w.heap.size) (hL : Laid w) (h : JIn w Anyw A x) (hc : chkB x 1 = 0) (ht : J.written x.toJ = numsOf t) (hl : t.size ≤ 16384) :
    Calls Tryd.prog 11 #[.agg A] w fun e w' => e = .returned (.tuple #[.string t, .int .i64 0]) ∧ Below w.heap.size w w' := by
  refine (Text_ok A x w h8 hL h hc (by rw [ht, numsOf_len]; exact hl)).mono ?_
  rintro e w' ⟨s, rfl, hb, hs⟩
  rw [ht] at hs
  obtain rfl := numsOf_inj hs
  exact ⟨rfl, hb⟩
theorem Text_bad (A : Array Value) (x : JB) (k : Nat) (w : World) (h8 : 8 ≤ w.heap.size) (hL : Laid w) (h : JIn w Anyw A x) (hc : chkB x 1 = k) (hk : k ≠ 0) :
    Calls Tryd.prog 11 #[.agg A] w fun e w' => e = .returned (.tuple #[.string ByteArray.empty, .int .i64 (k : Int)]) ∧ Below w.heap.size w w' := by
  refine (Text_any A x w h8 hL h).mono ?_
  rintro e w' ⟨s, k', rfl, hb, h1, _⟩
  obtain ⟨rfl, rfl⟩ := h1 (by rw [hc]; exact hk)
  rw [hc]
  exact ⟨rfl, hb⟩
set_option maxHeartbeats 8000000 in
set_option maxRecDepth 16000 in
theorem names_walk (W : World) (hL : 8 ≤ W.heap.size ∧ Laid W) :
    Calls Tryd.prog 3 #[] W fun e W' => e = .returned (.bool true) ∧ Below W.heap.size W W' := by
  have h8 : ∀ w', Below W.heap.size W w' → 8 ≤ w'.heap.size ∧ Laid w' := fun w' hb => ⟨Nat.le_trans hL.1 hb.size, hL.2.below hb hL.1⟩
  have H8 : Hid (∀ w', Below W.heap.size W w' → 8 ≤ w'.heap.size ∧ Laid w') := h8
  have R1 := Read_exact nmS1 nmV1 [] (by decide) nm_read1 W hL.1 hL.2
  have RF : Hid (∀ (s : ByteArray) (n e : Nat) (r : List Nat), s.size ≤ 16384 → J.read FF (numsOf s) = .bad e r → s.size - r.length = n → ∀ w', Below W.heap.size W w' → Calls Tryd.prog 10 #[.string s, .int .i64 (n : Int), .int .i64 (e : Int)] w' fun ed w'' => ed = .returned (.bool true) ∧ Below w'.heap.size w' w'') :=
    fun s n e r a1 a2 a3 w' hb => refusedL_any s n e r a1 a2 a3 w' (h8 w' hb).1 (h8 w' hb).2
  have F1 := fun w' (hb : Below W.heap.size W w') => RF.out ⟨#[123, 34, 97, 34, 58, 49, 44, 34, 97, 34, 58, 50, 125]⟩ 9 160 _ (by decide) nm_bad1 rfl w' hb
  have F2 := fun w' (hb : Below W.heap.size W w') => RF.out ⟨#[91, 49, 44, 93]⟩ 3 160 _ (by decide) nm_bad2 rfl w' hb
  have F3 := fun w' (hb : Below W.heap.size W w') => RF.out ⟨#[48, 49]⟩ 1 160 _ (by decide) nm_bad3 rfl w' hb
  have F4 := fun w' (hb : Below W.heap.size W w') => RF.out ⟨#[34, 92, 117, 100, 56, 48, 48, 120, 34]⟩ 7 160 _ (by decide) nm_bad4 rfl w' hb
  have F5 := fun w' (hb : Below W.heap.size W w') => RF.out ⟨#[91]⟩ 1 160 _ (by decide) nm_bad5 rfl w' hb
  have R2 := fun w' (hb : Below W.heap.size W w') => Read_exact nmS2 nmV2 [] (by decide) nm_read2 w' (h8 w' hb).1 (h8 w' hb).2
  have T1 := fun w' (hb : Below W.heap.size W w') => Text_exact (flatA 4 false 0 ⟨#[1, 47]⟩) _ ⟨#[34, 92, 117, 48, 48, 48, 49, 47, 34]⟩ w' (h8 w' hb).1 (h8 w' hb).2 (jin_flat w' Anyw 4 false 0 ⟨#[1, 47]⟩ (by decide) rng_zero) chk_t1 wr_t1 (by decide)
  have T2 := fun w' (hb : Below W.heap.size W w') => Text_bad (flatA 3 false 0 ⟨#[49]⟩) _ 8 w' (h8 w' hb).1 (h8 w' hb).2 (jin_flat w' Anyw 3 false 0 ⟨#[49]⟩ (by decide) rng_zero) chk_t2 (by decide)
  have T3 := fun w' (hb : Below W.heap.size W w') => Text_exact (flatA 3 false 0 ⟨#[49, 46, 53, 48]⟩) _ ⟨#[49, 46, 53, 48]⟩ w' (h8 w' hb).1 (h8 w' hb).2 (jin_flat w' Anyw 3 false 0 ⟨#[49, 46, 53, 48]⟩ (by decide) rng_zero) chk_t3 wr_t3 (by decide)
  have AL := fun w' (hb : Below W.heap.size W w') => alive_any w' (h8 w' hb).1 (h8 w' hb).2
  have S1 := fun (w' : World) => Same_one (.mk 2 false 7 ByteArray.empty [] []) (flatA 2 false 7 ByteArray.empty) (flatA 2 false 7 ByteArray.empty) Anyw Anyw w' (jin_flat w' Anyw 2 false 7 ByteArray.empty (by decide) (by unfold J.Rng; omega)) (jin_flat w' Anyw 2 false 7 ByteArray.empty (by decide) (by unfold J.Rng; omega))
  have S2 := fun (w' : World) => Same_one (.mk 1 true 0 ByteArray.empty [] []) (flatA 1 true 0 ByteArray.empty) (flatA 1 true 0 ByteArray.empty) Anyw Anyw w' (jin_flat w' Anyw 1 true 0 ByteArray.empty (by decide) rng_zero) (jin_flat w' Anyw 1 true 0 ByteArray.empty (by decide) rng_zero)
  have ST := fun (w' : World) => Str_any ⟨#[1, 47]⟩ w'
  have NU := fun (w' : World) => Num_any 7 w'
  have YE := fun (w' : World) => Yes_any true w'
  unfold nmS1 at R1
  unfold nmS2 at R2
  unfold flatA jA at T1 T2 T3 S1 S2 ST NU YE
  rw [show ByteArray.empty = ⟨#[]⟩ from rfl] at T2 S1 S2 NU YE
  simp only [show (((9 : Nat) : Int)) = 9 from rfl, show (((160 : Nat) : Int)) = 160 from rfl, show (((3 : Nat) : Int)) = 3 from rfl, show (((1 : Nat) : Int)) = 1 from rfl, show (((7 : Nat) : Int)) = 7 from rfl, show (((8 : Nat) : Int)) = 8 from rfl, show (((4 : Nat) : Int)) = 4 from rfl, show (((2 : Nat) : Int)) = 2 from rfl] at F1 F2 F3 F4 F5 T1 T2 T3 S1 S2 ST NU YE
  clear h8 hL
  go_enter Tryd.func3, Tryd.ntmps3
  go_wp2_with fail
  refine R1.mono ?_
  rintro e w1 ⟨A, rfl, hb1, hJ⟩
  obtain ⟨nq, nc, ib, io, ic, rfl, hit⟩ := items_at (vs := [.mk 2 false 1 ⟨#[]⟩ [] [], .mk 3 false 0 ⟨#[45, 48]⟩ [] [], .mk 3 false 0 ⟨#[49, 46, 48]⟩ [] [], .mk 3 false 0 ⟨#[57, 50, 50, 51, 51, 55, 50, 48, 51, 54, 56, 53, 52, 55, 55, 53, 56, 48, 56]⟩ [] []]) hJ (by decide)
  have i0 := hit 0 _ rfl
  have i1 := hit 1 _ rfl
  have i2 := hit 2 _ rfl
  have i3 := hit 3 _ rfl
  have nb := below_new w1 (.cells #[.int .u8 5, .bool false, .int .i64 0, .string ⟨#[]⟩, .slice nq 0 nc, .slice (some ⟨ib, io, none⟩) 4 ic] 25)
  have B1 := below_more hb1 nb
  obtain ⟨x0, x1, x2⟩ := i0
  obtain ⟨x3, x4, x5⟩ := i1
  obtain ⟨x6, x7, x8⟩ := i2
  obtain ⟨x9, x10, x11⟩ := i3
  have yy : ∀ {a : Addr} {v : Value}, w1.cell? a = some v → (w1.alloc (.cells #[.int .u8 5, .bool false, .int .i64 0, .string ⟨#[]⟩, .slice nq 0 nc, .slice (some ⟨ib, io, none⟩) 4 ic] 25)).cell? a = some v := fun h => below_cell h nb
  have y0 := yy (show w1.cell? ⟨ib, io, none⟩ = some (.int .u8 2) from x0)
  have y1 := yy (show w1.cell? ⟨ib, io + 2, none⟩ = some (.int .i64 1) from x1)
  have y3 := yy (show w1.cell? ⟨ib, io + 6, none⟩ = some (.int .u8 3) from x3)
  have y5 := yy (show w1.cell? ⟨ib, io + 6 + 3, none⟩ = some (.string ⟨#[45, 48]⟩) from x5)
  have y8 := yy (show w1.cell? ⟨ib, io + 12 + 3, none⟩ = some (.string ⟨#[49, 46, 48]⟩) from x8)
  have y11 := yy (show w1.cell? ⟨ib, io + 18 + 3, none⟩ = some (.string ⟨#[57, 50, 50, 51, 51, 55, 50, 48, 51, 54, 56, 53, 52, 55, 55, 53, 56, 48, 56]⟩) from x11)
  obtain ⟨⟨z0, z1, z2, z3, z4, z5⟩, _, _, _, _, _, _⟩ := row6_cells (_root_.Go.heap_alloc_new w1 (.cells #[.int .u8 5, .bool false, .int .i64 0, .string ⟨#[]⟩, .slice nq 0 nc, .slice (some ⟨ib, io, none⟩) 4 ic] 25))
  clear R1 hJ hit nb yy x0 x1 x2 x3 x4 x5 x6 x7 x8 x9 x10 x11 hb1
  simp only [jA, List.length_nil, List.length_cons]
  go_wp2_with fail
  refine (F1 _ B1).mono ?_
  rintro e w2 ⟨rfl, b2⟩
  have B2 := below_more B1 b2
  clear b2 B1 F1 y0 y1 y3 y5 y8 y11 z0 z1 z2 z3 z4 z5
  go_wp2_with fail
  refine (F2 _ B2).mono ?_
  rintro e w3 ⟨rfl, b2⟩
  have B3 := below_more B2 b2
  clear b2 B2 F2
  go_wp2_with fail
  refine (F3 _ B3).mono ?_
  rintro e w4 ⟨rfl, b2⟩
  have B4 := below_more B3 b2
  clear b2 B3 F3
  go_wp2_with fail
  refine (F4 _ B4).mono ?_
  rintro e w5 ⟨rfl, b2⟩
  have B5 := below_more B4 b2
  clear b2 B4 F4
  go_wp2_with fail
  refine (F5 _ B5).mono ?_
  rintro e w6 ⟨rfl, b2⟩
  have B6 := below_more B5 b2
  clear b2 B5 F5
  go_wp2_with fail
  refine (R2 _ B6).mono ?_
  rintro e w7 ⟨A, rfl, b2, hJ⟩
  obtain ⟨q1, c1, q2, c2, rfl⟩ := flat_exact hJ
  have B7 := below_more B6 b2
  have nb := below_new w7 (.cells #[.int .u8 4, .bool false, .int .i64 0, .string ⟨#[240, 159, 152, 128]⟩, .slice q1 0 c1, .slice q2 0 c2] 25)
  have B8 := below_more B7 nb
  obtain ⟨⟨z0, z1, z2, z3, z4, z5⟩, _, _, _, _, _, _⟩ := row6_cells (_root_.Go.heap_alloc_new w7 (.cells #[.int .u8 4, .bool false, .int .i64 0, .string ⟨#[240, 159, 152, 128]⟩, .slice q1 0 c1, .slice q2 0 c2] 25))
  clear b2 B6 R2 hJ B7 nb
  simp only [jA, show (((4 : Nat) : Int)) = 4 from rfl]
  go_wp2_with fail
  refine (ST _).mono ?_
  rintro e w8 ⟨rfl, b2⟩
  have B9 := below_more B8 b2
  have u3 := below_cell z3 b2
  clear b2 B8 z0 z1 z2 z3 z4 z5 ST
  simp only []
  go_wp2_with fail
  refine (T1 _ B9).mono ?_
  rintro e w9 ⟨rfl, b2⟩
  have B10 := below_more B9 b2
  have u4 := below_cell u3 b2
  clear b2 B9 u3 T1
  go_wp2_with fail
  refine (T2 _ B10).mono ?_
  rintro e w10 ⟨rfl, b2⟩
  have B11 := below_more B10 b2
  have u5 := below_cell u4 b2
  clear b2 B10 u4 T2
  go_wp2_with fail
  refine (T3 _ B11).mono ?_
  rintro e w11 ⟨rfl, b2⟩
  have B12 := below_more B11 b2
  have u6 := below_cell u5 b2
  clear b2 B11 u5 T3
  go_wp2_with fail
  refine (AL _ B12).mono ?_
  rintro e w12 ⟨rfl, b2⟩
  have B13 := below_more B12 b2
  clear b2 B12 u6 AL
  go_wp2_with fail
  refine (NU _).mono ?_
  rintro e w13 ⟨rfl, b2⟩
  have B14 := below_more B13 b2
  clear b2 B13 NU
  go_wp2_with fail
  refine (S1 _).mono ?_
  rintro e w14 ⟨rfl, b2⟩
  have B15 := below_more B14 b2
  clear b2 B14 S1
  go_wp2_with fail
  refine (YE _).mono ?_
  rintro e w15 ⟨rfl, b2⟩
  have B16 := below_more B15 b2
  clear b2 B15 YE
  go_wp2_with fail
  refine (S2 _).mono ?_
  rintro e w16 ⟨rfl, b2⟩
  have B17 := below_more B16 b2
  clear b2 B16 S2
  go_wp2_with fail
  go_ret
  exact ⟨rfl, B17⟩
end Go.Proofs.YtbilkbmpdfiioaaDoor
namespace Go.Proofs.YtbilkbmpdfiioaaDoor.jsonNames
open Go.ChangeShapes Go.WideShapes Go.ChangeAt Go.RowKit Go.Deep Go.Joins
open Go.ChangeMaps (open_string shut_string)
set_option linter.unusedVariables false

theorem own : ownKnob Tryd.prog.godebug = none := by kernel_rfl
theorem laidOut : laidOutB Tryd.prog = true := by kernel_rfl

set_option maxHeartbeats 4000000 in
set_option maxRecDepth 100000 in
theorem lifted (os : Os) (started : os.Started) (H : Type) (enc : TypeId × Value → H) :
    ReturnsInHanded {} Tryd.checked os 3 .any (fun w args => (Rows.jsonNamesSpec.pre enc Tryd.prog Tryd.f3 [] false w args ∧ laidMetH Tryd.prog laidLs w) ∧ sizedMet enc Tryd.prog Tryd.f3 (OpenSpec.ofChange Rows.jsonNamesSpec) false w args)
      (Rows.jsonNamesSpec.post enc Tryd.prog Tryd.f3 false true false false) := by
  refine returnsInHanded_of_change_and (C := Tryd.checked) (X := fun w _ => laidMetH Tryd.prog laidLs w) (fun _ _ _ hh h => h.of_heap hh) own started (by kernel_rfl) Tryd.func3
    (ChangeSpec.witness_at (enc := enc) (C := Tryd.checked) (os := os) (X := fun w _ => laidMetH Tryd.prog laidLs w) false (laidWorld os) #[] 8 rfl (by kernel_rfl) (by kernel_rfl) (by kernel_rfl) (by kernel_rfl) (by kernel_rfl) (laidWorld_met os _)) ?_
  intro W base args ds gs before hval0 hW _ _ hL _
  have hval : ∀ (j : Nat) t v, Tryd.f3.params[j]? = some t → args[j]? = some v → Value.okWide Tryd.prog W .any base t v := hval0
  have hW' := hW
  obtain ⟨p, q, hA0, hV, rfl, hfz, hnd⟩ := hW
  have hA : DataW.TrodAll enc Tryd.prog W 0 (fun _ => true) true Tryd.f3.params.toList args.toList ds p := hA0
  rw [Tryd.params3] at hA hval
  obtain ⟨hargs, rfl, rfl⟩ := trodAll_nil hA
  obtain rfl : args = #[] := by cases args; simp_all
  obtain ⟨rfl, rfl⟩ := trodVars_none hV
  clear hA0 hval0
  refine (names_walk  W (laid_of hL) ).mono fun e W' ⟨he, bel⟩ => ?_
  subst he
  exact ⟨_, rfl, _, _, _, [], _, [], hW', trodAll_mk1 (shut_bool Tryd.underlying4 _), trodAll_mk0, rfl, bel.frame _, fun h => by cases h⟩

theorem over : Rows.JsonNamesSaid :=
  OpenClaim.holds_of_wide 3 Tryd.f3 rfl rfl rfl rfl rfl rfl rfl ⟨rfl, rfl, rfl, rfl, rfl⟩ rfl rfl rfl rfl rfl (by kernel_rfl) Tryd.func3 (by kernel_rfl)
    (of_decide_eq_true (by kernel_rfl)) (by unfold Func.isWrapper; first | (rw [if_pos (by decide +kernel)]; kernel_rfl) | (rw [if_neg (by decide +kernel)]; exact ⟨rfl, rfl⟩))
    (fun os started H enc _ => lifted os started H enc)
end Go.Proofs.YtbilkbmpdfiioaaDoor.jsonNames
namespace Go.Proofs.YtbilkbmpdfiioaaDoor
open Go

theorem jsonNames_card : Rows.JsonNamesCardSaid :=
  Claim7.holds_tied_plain_at .later [] [.data, .data, .data, .data, .sentinel, .sentinel, .pinned] true (true, "b6f76659f66976d8c1dc984b5cc8dc21c6acfff27bc050cf96e611916550fa46") true
    jsonNames.over (fun _ h => by cases h) (by kernel_rfl) (fun _ h => by cases h) jsonNames_row_tie rfl ⟨rfl, rfl⟩ (by kernel_rfl) rfl
    (fun f fn hf hfn => by
      obtain rfl : f = 3 := Option.some.inj ((show Tryd.prog.funcNamed "docket/docketlaw16.JsonNames" = some 3 by kernel_rfl).symm.trans hf) |>.symm
      obtain rfl : fn = Tryd.f3 := (Option.some.inj (Tryd.func3.symm.trans hfn)).symm
      exact ⟨by kernel_rfl, fun j t ht => by
        rw [Tryd.params3] at ht
        simp at ht⟩)
    (by kernel_rfl)
#print axioms jsonNames_card
end Go.Proofs.YtbilkbmpdfiioaaDoor
