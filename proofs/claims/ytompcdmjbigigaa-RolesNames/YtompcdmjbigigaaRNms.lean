/-
  The law RolesNames walked.
-/
import Derived.Test.YtompcdmjbigigaaRAlive
import Derived.Test.YtompcdmjbigigaaRApa2
namespace Go.Proofs.Ytompcdmjbigigaa
open Go.RowKit Go.WideShapes Go.Joins Go.Maps

def sAnn : ByteArray := ⟨#[97, 110, 110]⟩
def sBob : ByteArray := ⟨#[98, 111, 98]⟩
def sUp : ByteArray := ⟨#[65]⟩
def sLa : ByteArray := ⟨#[97]⟩
def sLb : ByteArray := ⟨#[98]⟩
theorem prs_in {w : World} {b : Nat} {t : TypeId} {x y : ByteArray} (h : w.heap[b]? = some (.cells #[.string x, .string y] t (0, 0))) : PrsIn w (some ⟨b, 0, none⟩) [(x, y)] 1 :=
  ⟨fun _ => ⟨b, 0, rfl, fun i hi => by
    obtain rfl : i = 0 := by simpa using hi
    exact ⟨Lib.cell_of_heap h 0, Lib.cell_of_heap h 1⟩⟩, Nat.le_refl _, by unfold maxLen; simp, fun e => by cases e⟩
theorem may_boss {v : Bool} (h : MayA lTwo [sBoss] sCheck v) : v = true := by
  refine (h.ok (mayE_ok (two_names _ (by simp)) (by decide))).2 ⟨⟨sClerk, [], [sCheck]⟩, by simp [lTwo], ?_, by simp⟩
  exact ((two_boss [sBoss] (by simp)).mem sClerk).1 (by simp)
theorem may_clerk {v : Bool} (h : MayA lTwo [sClerk] sSign v) : v = false := by
  have k := h.ok (mayE_ok (two_names _ (by simp)) (by decide))
  cases v with
  | false => rfl
  | true =>
    obtain ⟨r, hr, hc, hd⟩ := k.1 rfl
    simp only [lTwo, List.mem_cons, List.not_mem_nil, or_false] at hr
    rcases hr with rfl | rfl
    · have := (two_clerk.mem _).2 hc
      simp [sBoss, sClerk] at this
    · simp [sSign, sCheck] at hd
theorem mayE_1 : mayE lTwo [sBoss] sCheck = 0 := mayE_ok (two_names _ (by simp)) (by decide)
theorem mayE_2 : mayE lTwo [sClerk] sSign = 0 := mayE_ok (two_names _ (by simp)) (by decide)
theorem mayE_3 : mayE lTwo [] ByteArray.empty = 5 := mayE_name (two_names _ (by simp)) (by decide)
theorem ap_1 : apV [(sClerk, sBoss)] [(sAnn, sClerk)] sAnn sBoss = true ∧ apE [(sClerk, sBoss)] [(sAnn, sClerk)] sBoss = 0 := by decide
theorem ap_2 : apV [(sClerk, sBoss)] [(sAnn, sClerk)] sBob sBoss = false := by decide
theorem ap_3 : apE [(sClerk, sBoss)] [(sAnn, sClerk)] sUp = 5 := by decide
def lBad : List Rl := [⟨sLa, [sLb], []⟩]
theorem chk_bad : chkE lBad = 200 := by decide
theorem bad_in (w : World) : RolesIn ((w.alloc (.cells #[.string sLb] 9)).alloc (.cells #[.string sLa, .slice (some ⟨w.heap.size, 0, none⟩) 1 1, .slice none 0 0] 37)) (some ⟨w.heap.size + 1, 0, none⟩) lBad 1 ∧
    Below w.heap.size w ((w.alloc (.cells #[.string sLb] 9)).alloc (.cells #[.string sLa, .slice (some ⟨w.heap.size, 0, none⟩) 1 1, .slice none 0 0] 37)) := by
  have b1 := Boxed.new w 9 (.string sLb)
  have e1 := below_new w (.cells #[.string sLb] 9)
  have z1 : (w.alloc (.cells #[.string sLb] 9)).heap.size = w.heap.size + 1 := World.size_alloc _ _
  generalize w.alloc (.cells #[.string sLb] 9) = w1 at b1 e1 z1 ⊢
  generalize hO : (Obj.cells #[.string sLa, .slice (some ⟨w.heap.size, 0, none⟩) 1 1, .slice none 0 0] 37) = o
  have n4 := _root_.Go.heap_alloc_new w1 o
  rw [z1] at n4
  have c1 := (b1.alloc o).cell
  have e4 := below_more e1 (below_new w1 o)
  generalize w1.alloc o = w4 at n4 c1 e4 ⊢
  subst hO
  refine ⟨⟨fun _ => ⟨_, _, rfl, fun i hi => ?_⟩, Nat.le_refl _, by unfold maxLen; simp, fun e => by cases e⟩, e4⟩
  have i1 := one_in c1 (by decide)
  have hs : sLa.size ≤ maxLen := by decide
  obtain rfl : i = 0 := by simp [lBad] at hi; omega
  exact ⟨_, _, _, _, Lib.cell_of_heap n4 0, Lib.cell_of_heap n4 1, Lib.cell_of_heap n4 2, i1, StrsIn.nil _, hs⟩
set_option maxHeartbeats 4000000 in
set_option maxRecDepth 8000 in
theorem nms_walk (w : World) : Calls Try.prog 3 #[] w fun e w' => e = .returned (.bool true) ∧ Below w.heap.size w w' := by
  have T1 := two_any w
  go_enter Try.func3, Try.ntmps3
  go_wp2_with fail
  refine T1.mono ?_
  rintro e w1 ⟨q1, c1, rfl, hR, hb1⟩
  simp only []
  have x2 := one_in (Boxed.new w1 9 (.string sBoss)).cell (by decide)
  have b2 := below_new w1 (.cells #[.string sBoss] 9)
  have M1 := May_any q1 c1 lTwo (some ⟨w1.heap.size, 0, none⟩) 1 [sBoss] sCheck _ (hR.below b2) x2 (by decide)
  rw [mayE_1] at M1
  have HB2 : Hid _ := below_more hb1 b2
  clear T1 hR hb1 x2 b2
  go_wp2_with fail
  refine M1.mono ?_
  rintro e w3 ⟨v, rfl, hv, hb3⟩
  obtain rfl := may_boss hv
  simp only []
  have HB3 : Hid (Below w.heap.size w w3) := below_more HB2.out hb3
  have T2 := two_any w3
  clear M1 hv hb3
  go_wp2_with fail
  refine T2.mono ?_
  rintro e w4 ⟨q4, c4, rfl, hR, hb4⟩
  simp only []
  have x5 := one_in (Boxed.new w4 9 (.string sClerk)).cell (by decide)
  have b5 := below_new w4 (.cells #[.string sClerk] 9)
  have M2 := May_any q4 c4 lTwo (some ⟨w4.heap.size, 0, none⟩) 1 [sClerk] sSign _ (hR.below b5) x5 (by decide)
  rw [mayE_2] at M2
  have HB5 : Hid _ := below_more (below_more HB3.out hb4) b5
  clear T2 hR hb4 x5 b5
  go_wp2_with fail
  refine M2.mono ?_
  rintro e w6 ⟨v, rfl, hv, hb6⟩
  obtain rfl := may_clerk hv
  simp only []
  have HB6 : Hid (Below w.heap.size w w6) := below_more HB5.out hb6
  have T3 := two_any w6
  clear M2 hv hb6
  go_wp2_with fail
  refine T3.mono ?_
  rintro e w7 ⟨q7, c7, rfl, hR, hb7⟩
  simp only []
  have M3 := May_any q7 c7 lTwo none 0 [] ByteArray.empty w7 hR (StrsIn.nil _) (by decide)
  rw [mayE_3] at M3
  have HB7 : Hid (Below w.heap.size w w7) := below_more HB6.out hb7
  clear T3 hR hb7
  go_wp2_with fail
  refine M3.mono ?_
  rintro e w8 ⟨v3, rfl, _, hb8⟩
  simp only []
  have HB8 : Hid (Below w.heap.size w w8) := below_more HB7.out hb8
  clear M3 hb8
  have HP : Hid (PrsIn ((w8.alloc (.cells #[.string sClerk, .string sBoss] 28)).alloc (.cells #[.string sAnn, .string sClerk] 31)) (some ⟨w8.heap.size, 0, none⟩) [(sClerk, sBoss)] 1 ∧
      PrsIn ((w8.alloc (.cells #[.string sClerk, .string sBoss] 28)).alloc (.cells #[.string sAnn, .string sClerk] 31)) (some ⟨w8.heap.size + 1, 0, none⟩) [(sAnn, sClerk)] 1 ∧
      Below w.heap.size w ((w8.alloc (.cells #[.string sClerk, .string sBoss] 28)).alloc (.cells #[.string sAnn, .string sClerk] 31))) := by
    have n9 := _root_.Go.heap_alloc_new w8 (.cells #[.string sClerk, .string sBoss] 28)
    have b9 := below_new w8 (.cells #[.string sClerk, .string sBoss] 28)
    have z9 : (w8.alloc (.cells #[.string sClerk, .string sBoss] 28)).heap.size = w8.heap.size + 1 := World.size_alloc _ _
    generalize w8.alloc (.cells #[.string sClerk, .string sBoss] 28) = w9 at n9 b9 z9 ⊢
    have n10 := _root_.Go.heap_alloc_new w9 (.cells #[.string sAnn, .string sClerk] 31)
    rw [z9] at n10
    have b10 := below_new w9 (.cells #[.string sAnn, .string sClerk] 31)
    exact ⟨(prs_in n9).below b10, prs_in n10, below_more HB8.out (below_more b9 b10)⟩
  go_wp2_with fail
  have A1 := Apart_any (some ⟨w8.heap.size, 0, none⟩) 1 [(sClerk, sBoss)] (some ⟨w8.heap.size + 1, 0, none⟩) 1 [(sAnn, sClerk)] sAnn sBoss _ HP.out.1 HP.out.2.1 (by decide)
  rw [ap_1.1, ap_1.2] at A1
  refine A1.mono ?_
  rintro e w11 ⟨rfl, hb11⟩
  simp only []
  have H11 : Hid (PrsIn w11 (some ⟨w8.heap.size, 0, none⟩) [(sClerk, sBoss)] 1 ∧ PrsIn w11 (some ⟨w8.heap.size + 1, 0, none⟩) [(sAnn, sClerk)] 1 ∧ Below w.heap.size w w11) := ⟨HP.out.1.below hb11, HP.out.2.1.below hb11, below_more HP.out.2.2 hb11⟩
  clear A1 hb11
  have A2 := Apart_any (some ⟨w8.heap.size, 0, none⟩) 1 [(sClerk, sBoss)] (some ⟨w8.heap.size + 1, 0, none⟩) 1 [(sAnn, sClerk)] sBob sBoss _ H11.out.1 H11.out.2.1 (by decide)
  rw [ap_2, ap_1.2] at A2
  go_wp2_with fail
  refine A2.mono ?_
  rintro e w12 ⟨rfl, hb12⟩
  simp only []
  have H12 : Hid (PrsIn w12 (some ⟨w8.heap.size, 0, none⟩) [(sClerk, sBoss)] 1 ∧ PrsIn w12 (some ⟨w8.heap.size + 1, 0, none⟩) [(sAnn, sClerk)] 1 ∧ Below w.heap.size w w12) := ⟨H11.out.1.below hb12, H11.out.2.1.below hb12, below_more H11.out.2.2 hb12⟩
  clear A2 hb12
  have A3 := Apart_any (some ⟨w8.heap.size, 0, none⟩) 1 [(sClerk, sBoss)] (some ⟨w8.heap.size + 1, 0, none⟩) 1 [(sAnn, sClerk)] sBob sUp _ H12.out.1 H12.out.2.1 (by decide)
  rw [ap_3] at A3
  generalize apV [(sClerk, sBoss)] [(sAnn, sClerk)] sBob sUp = v4 at A3
  go_wp2_with fail
  refine A3.mono ?_
  rintro e w13 ⟨rfl, hb13⟩
  simp only []
  have H13 : Hid (Below w.heap.size w w13) := below_more H12.out.2.2 hb13
  have AL := alive_any w13
  clear A3 hb13
  go_wp2_with fail
  refine AL.mono ?_
  rintro e w14 ⟨rfl, hb14⟩
  simp only []
  have CK := Check_any (some ⟨w14.heap.size + 1, 0, none⟩) 1 lBad _ (bad_in w14).1
  rw [chk_bad] at CK
  have H14 : Hid (Below w.heap.size w _) := below_more (below_more H13.out hb14) (bad_in w14).2
  clear AL hb14
  go_wp2_with fail
  refine CK.mono ?_
  rintro e w15 ⟨rfl, hb15⟩
  simp only []
  have H15 : Hid (Below w.heap.size w w15) := below_more H14.out hb15
  clear CK hb15
  go_wp2_with fail
  go_ret
  exact ⟨rfl, H15.out⟩
end Go.Proofs.Ytompcdmjbigigaa
