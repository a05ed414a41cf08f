/-
  One time more is one seal more: the law.
-/
import Derived.Test.YtiimabaadehkiaaDoorJ25
import Derived.Test.YtiimabaadehkiaaDoorJ26
namespace Go.Proofs.YtiimabaadehkiaaDoor
open Go.RowKit Go.WideShapes

set_option maxHeartbeats 2000000 in
set_option maxRecDepth 100000 in
theorem law_chains (a b : ByteArray) (t : Int) (w : World) (hk : KOn w) :
    Calls Tryd.prog 7 #[.string a, .string b, .int .i64 t] w fun e w' => e = .returned (.bool true) ∧ Below w.heap.size w w' := by
  have AL := alive_any w hk
  go_enter Tryd.func7, Tryd.ntmps7
  by_cases h1 : 3000 < a.size
  · have hI : (3000 : Int) < (a.size : Int) := by omega
    go_wp2_with (go_at_call 13; refine AL.mono ?_; rintro e w1 ⟨rfl, hb1⟩)
    go_ret
    exact ⟨rfl, hb1⟩
  have hI : ¬ ((3000 : Int) < (a.size : Int)) := by omega
  by_cases h2 : 3000 < b.size
  · have hJ : (3000 : Int) < (b.size : Int) := by omega
    go_wp2_with (go_at_call 13; refine AL.mono ?_; rintro e w1 ⟨rfl, hb1⟩)
    go_ret
    exact ⟨rfl, hb1⟩
  have hJ : ¬ ((3000 : Int) < (b.size : Int)) := by omega
  by_cases h3 : t < 1
  · go_wp2_with (go_at_call 13; refine AL.mono ?_; rintro e w1 ⟨rfl, hb1⟩)
    go_ret
    exact ⟨rfl, hb1⟩
  by_cases h4 : (63 : Int) < t
  · go_wp2_with (go_at_call 13; refine AL.mono ?_; rintro e w1 ⟨rfl, hb1⟩)
    go_ret
    exact ⟨rfl, hb1⟩
  obtain ⟨n, rfl⟩ : ∃ n : Nat, t = (n : Int) := ⟨t.toNat, by omega⟩
  have hn1 : 1 ≤ n := by omega
  have hn2 : n ≤ 63 := by omega
  obtain ⟨m, rfl⟩ : ∃ m, n = m + 1 := ⟨n - 1, by omega⟩
  obtain ⟨n, hn⟩ : ∃ n, m + 1 = n := ⟨_, rfl⟩
  have hPl := passN_len (numsOf a) (numsOf b) m
  have hPm := passN_more (numsOf a) (numsOf b) n
  have hPb := passN_byte (s := numsOf a) (numsOf_lt b) n
  rw [hn] at hPl hn1 hn2 h3 h4 ⊢
  have HP1 := fun w' hk' => pass_ok a b n w' hk' (by omega) (by omega) hn1 (by omega)
  have HP2 := fun w' hk' => pass_ok a b (n + 1) w' hk' (by omega) (by omega) (by omega) (by omega)
  rw [hPm] at HP2
  have hSl := sealN_len (numsOf a) (passN (numsOf a) (numsOf b) n)
  have hSb := sealN_byte (numsOf a) (passN (numsOf a) (numsOf b) n)
  have hSE := fun (p q : Option Addr) (c d : Nat) w' hk' hb' hc' hb2' hd' => sealed_any p q c d (numsOf a) (passN (numsOf a) (numsOf b) n) w' hk' hb' hc' hb2' hd' (by rw [numsOf_len]; omega) (by omega)
  generalize sealN (numsOf a) (passN (numsOf a) (numsOf b) n) = S at HP2 hSl hSb hSE
  generalize passN (numsOf a) (numsOf b) n = D at HP1 hPl hPb hSE
  have hxb := hexN_byte hPb
  have hsz1 : (strOf (hexN D)).size = 64 := by rw [strOf_size, hexN_len, hPl]
  clear hn hPm
  go_upto_region 4 with (go_at_call 13; refine AL.mono ?_; rintro e w1 ⟨rfl, hb1⟩)
  have P1 := HP1 w1 (hk.below hb1 hk.pos)
  clear AL HP1
  go_wp2_with fail
  refine P1.mono ?_
  rintro e w2 ⟨rfl, hb2⟩
  have B2 := below_go hb1 hb2
  have P2 := HP2 w2 (hk.below B2 hk.pos)
  clear P1 HP2
  simp only []
  go_upto_region 5 with fail
  have e1 : ((n : Int) + 1) = ((n + 1 : Nat) : Int) := by omega
  rw [← e1] at P2
  clear e1
  go_wp2_with fail
  refine P2.mono ?_
  rintro e w3 ⟨rfl, hb3⟩
  have B3 := below_go B2 hb3
  have UX := unhex_any (strOf (hexN D)) w3 (by omega)
  rw [nums_strOf hxb] at UX
  clear P2
  simp only []
  go_wp2_with fail
  refine UX.mono ?_
  intro e w4 hu
  cases hu with
  | no h he hb4 => rw [unhex_hex hPb] at h; cases h
  | ok r v h he ho hb4 =>
    rw [unhex_hex hPb] at h
    obtain rfl := Option.some.inj h
    subst he
    have B4 := below_go B3 hb4
    obtain ⟨p4, c4, rfl, hc4, hi4, _⟩ := owns_bin ho hPb
    obtain ⟨c5, w5, r5, hc5, i5, b5⟩ := conv_str a w4
    have B5 := below_go B4 b5
    have SE := hSE (some ⟨w4.heap.size, 0, none⟩) p4 c5 c4 w5 (hk.below B5 hk.pos) i5 (by rw [numsOf_len]; exact hc5) (hi4.below b5) hc4
    rw [numsOf_len, hPl] at SE
    clear UX ho hi4 i5 hSE
    simp only []
    have hSs : (Tryd.prog.info? 22).map (·.size) = some (Bs S).toArray.size := by rw [size_dig]; simp [Bs, hSl]
    go_wp2_with fail
    refine SE.mono ?_
    rintro e w6 ⟨rfl, hb6⟩
    have B6 := below_go B5 hb6
    simp only []
    go_step
    go_step
    go_step
    go_step
    refine wpList_store_row rfl 22 (.tmp 14) (.tmp 60) rfl w6.heap.size (Bs S).toArray (by rfl) (by rfl) 22 _ (_root_.Go.heap_alloc_new _ _) hSs (by simp [Bs, hSl]) (one_cell_bs _) ?_
    rw [World.setRow_alloc_new]
    have B7 : Below w.heap.size w (w6.alloc (Obj.cells (Bs S).toArray 22)) := B6.alloc B6.size _
    have HX := hex_any (some ⟨w6.heap.size, 0, none⟩) 32 S (w6.alloc (Obj.cells (Bs S).toArray 22)) (bin_dig (_root_.Go.heap_alloc_new _ _) hSb) (by omega)
    rw [hSl] at HX
    have hsl := slice_dig w6.heap.size
    have hbq := beq_self (strOf (hexN S)).toList
    generalize w6.heap.size = g6 at HX hsl ⊢
    generalize w6.alloc (Obj.cells (Bs S).toArray 22) = W7 at HX B7 ⊢
    clear hb6 SE r5 hSs
    simp only [Act.put]
    go_wp2_with (go_at_call 10; refine HX.mono ?_; rintro e w8 ⟨rfl, hb8⟩)
    go_ret
    exact ⟨rfl, below_go B7 hb8⟩
end Go.Proofs.YtiimabaadehkiaaDoor
