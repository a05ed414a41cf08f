import Derived.Test.YtblnoekogdpolaaDoorJDWb
namespace Go.Proofs.YtblnoekogdpolaaDoor
open Go.RowKit Go.WideShapes Go.Joins
theorem pre_next (op : Nat) (obj : Bool) (ns : List ByteArray) (vs : List JB) (i : Nat) (x : JB) (s : ByteArray) (hx : vs[i]? = some x) (hs : obj = true → ns[i]? = some s) :
    op :: preT obj (ns.map numsOf) (toJs vs) (i + 1) = ((op :: preT obj (ns.map numsOf) (toJs vs) i) ++ (if i = 0 then [] else [44])) ++ ((if obj then J.quoted (numsOf s) ++ [58] else []) ++ J.written x.toJ) := by
  have e1 : (toJs vs).getD i (.mk 0 false 0 [] [] []) = x.toJ := toJs_getD vs i x hx _
  have e2 : preT obj (ns.map numsOf) (toJs vs) (i + 1) = preT obj (ns.map numsOf) (toJs vs) i ++ ((if i = 0 then [] else [44]) ++ ((if obj then J.quoted ((ns.map numsOf).getD i []) ++ [58] else []) ++ J.written x.toJ)) := by
    rw [← e1]; rfl
  rw [e2]
  cases obj with
  | false => simp
  | true =>
    have e3 : (ns.map numsOf).getD i [] = numsOf s := by
      rw [List.getD_eq_getElem?_getD, List.getElem?_map, hs rfl]; rfl
    rw [e3]; simp
theorem sz_pos (v : JB) : 1 ≤ szB v := by
  cases v
  simp only [szB]
  omega
theorem sz_len : ∀ vs : List JB, vs.length ≤ szL vs
  | [] => by simp [szL]
  | v :: vs => by
    have h1 := sz_len vs
    have h2 := sz_pos v
    simp only [szL, List.length_cons]
    omega
theorem sz_at : ∀ (vs : List JB) (i : Nat) (x : JB), vs[i]? = some x → szB x ≤ szL vs
  | [], i, x, h => by simp at h
  | v :: vs, i, x, h => by
    cases i with
    | zero => simp at h; subst h; simp only [szL]; omega
    | succ i =>
      have := sz_at vs i x (by simpa using h)
      simp only [szL]
      omega
theorem written_five (b : Bool) (n : Int) (t : List Nat) (ns : List (List Nat)) (vs : List J.JV) : J.written (.mk 5 b n t ns vs) = (91 :: J.itemsT false ns vs) ++ [93] := by
  simp [J.written]
theorem written_six (b : Bool) (n : Int) (t : List Nat) (ns : List (List Nat)) (vs : List J.JV) : J.written (.mk 6 b n t ns vs) = (123 :: J.itemsT true ns vs) ++ [125] := by
  simp [J.written]
set_option maxHeartbeats 2000000 in
set_option maxRecDepth 100000 in
theorem dwritten_flat (k : Nat) (b : Bool) (n : Int) (t : ByteArray) (ns : List ByteArray) (vs : List JB) (nq iq : Option Addr) (nl nc il ic : Nat) (w : World) (hk : k ≤ 4) (hn : J.Rng n) (ht : t.size ≤ 16384) :
    Calls Tryd.prog 42 #[.agg (jA k b n t nq nl nc iq il ic)] w fun e w' => U8P (J.written (JB.mk k b n t ns vs).toJ) w e w' := by
  have b1 := below_new w (.cells (jA k b n t nq nl nc iq il ic) 25)
  have n1 := _root_.Go.heap_alloc_new w (.cells (jA k b n t nq nl nc iq il ic) 25)
  obtain ⟨⟨c0, c1, c2, c3, c4, c5⟩, _, _, _, _, _, _⟩ := row6_cells n1
  obtain ⟨W1, hW1⟩ : ∃ x, w.alloc (.cells (jA k b n t nq nl nc iq il ic) 25) = x := ⟨_, rfl⟩
  have hsz : W1.heap.size = w.heap.size + 1 := by rw [← hW1]; simp
  rw [hW1] at b1 c0 c1 c2 c3 c4 c5
  have HB : Hid (Below w.heap.size w W1 ∧ W1.heap.size = w.heap.size + 1) := ⟨b1, hsz⟩
  unfold jA at hW1 ⊢
  have HW1 : Hid (_ = W1) := hW1
  clear b1 n1 hW1
  have hk5 : k = 0 ∨ k = 1 ∨ k = 2 ∨ k = 3 ∨ k = 4 := by omega
  rcases hk5 with rfl | rfl | rfl | rfl | rfl
  · simp only [show (((0 : Nat) : Int)) = 0 from rfl] at *
    have kc : (convert 62 62 (.slice (some ⟨W1.heap.size, 0, none⟩) 4 4)).run Tryd.prog (W1.alloc (.cells #[.int .u8 110, .int .u8 117, .int .u8 108, .int .u8 108] 5)) = .ok _ _ := conv_word W1 #[.int .u8 110, .int .u8 117, .int .u8 108, .int .u8 108] 4 4 W1.heap.size rfl
    have HF : Hid (U8P [110, 117, 108, 108] w (.returned (.slice (some ⟨W1.heap.size, 0, none⟩) 4 4)) (W1.alloc (.cells #[.int .u8 110, .int .u8 117, .int .u8 108, .int .u8 108] 5 ((#[.int .u8 110, .int .u8 117, .int .u8 108, .int .u8 108] : Array Value).size, (#[.int .u8 110, .int .u8 117, .int .u8 108, .int .u8 108] : Array Value).size + 1)))) := word_told w W1 [110, 117, 108, 108] (by decide) HB.out.1 _ rfl 4 4 _ rfl rfl _
    clear hn ht hk hsz
    go_enter Tryd.func42, Tryd.ntmps42
    go_upto_region 1 with fail
    rw [HW1.out]
    go_wp2_with fail
    go_ret
    exact HF.out
  · simp only [show (((1 : Nat) : Int)) = 1 from rfl] at *
    cases b with
    | true =>
      have kc : (convert 62 62 (.slice (some ⟨W1.heap.size, 0, none⟩) 4 4)).run Tryd.prog (W1.alloc (.cells #[.int .u8 116, .int .u8 114, .int .u8 117, .int .u8 101] 5)) = .ok _ _ := conv_word W1 #[.int .u8 116, .int .u8 114, .int .u8 117, .int .u8 101] 4 4 W1.heap.size rfl
      have HF : Hid (U8P [116, 114, 117, 101] w (.returned (.slice (some ⟨W1.heap.size, 0, none⟩) 4 4)) (W1.alloc (.cells #[.int .u8 116, .int .u8 114, .int .u8 117, .int .u8 101] 5 ((#[.int .u8 116, .int .u8 114, .int .u8 117, .int .u8 101] : Array Value).size, (#[.int .u8 116, .int .u8 114, .int .u8 117, .int .u8 101] : Array Value).size + 1)))) := word_told w W1 [116, 114, 117, 101] (by decide) HB.out.1 _ rfl 4 4 _ rfl rfl _
      clear hn ht hk hsz
      go_enter Tryd.func42, Tryd.ntmps42
      go_upto_region 1 with fail
      rw [HW1.out]
      go_wp2_with fail
      go_ret
      exact HF.out
    | false =>
      have kc : (convert 62 62 (.slice (some ⟨W1.heap.size, 0, none⟩) 5 5)).run Tryd.prog (W1.alloc (.cells #[.int .u8 102, .int .u8 97, .int .u8 108, .int .u8 115, .int .u8 101] 5)) = .ok _ _ := conv_word W1 #[.int .u8 102, .int .u8 97, .int .u8 108, .int .u8 115, .int .u8 101] 5 5 W1.heap.size rfl
      have HF : Hid (U8P [102, 97, 108, 115, 101] w (.returned (.slice (some ⟨W1.heap.size, 0, none⟩) 5 5)) (W1.alloc (.cells #[.int .u8 102, .int .u8 97, .int .u8 108, .int .u8 115, .int .u8 101] 5 ((#[.int .u8 102, .int .u8 97, .int .u8 108, .int .u8 115, .int .u8 101] : Array Value).size, (#[.int .u8 102, .int .u8 97, .int .u8 108, .int .u8 115, .int .u8 101] : Array Value).size + 1)))) := word_told w W1 [102, 97, 108, 115, 101] (by decide) HB.out.1 _ rfl 5 5 _ rfl rfl _
      clear hn ht hk hsz
      go_enter Tryd.func42, Tryd.ntmps42
      go_upto_region 1 with fail
      rw [HW1.out]
      go_wp2_with fail
      go_ret
      exact HF.out
  · simp only [show (((2 : Nat) : Int)) = 2 from rfl] at *
    have T := dTens_any n hn W1
    have HE : Hid (J.written (JB.mk 2 b n t ns vs).toJ = J.intT n) := by show J.written _ = _; simp [JB.toJ, J.written]
    clear hn ht hk hsz
    go_enter Tryd.func42, Tryd.ntmps42
    go_upto_region 1 with fail
    rw [HW1.out]
    go_wp2_with fail
    refine T.mono ?_
    rintro e w2 ⟨⟨s, rfl, hs⟩, rfl⟩
    have HF : Hid (U8P (J.written (JB.mk 2 b n t ns vs).toJ) w (.returned (.slice (some ⟨w2.heap.size, 0, none⟩) s.size (grownCap w2 s.size 0 5))) (Lib.bytesWorld w2 5 s)) := by
      rw [HE.out]; exact bytes_told w w2 s _ hs HB.out.1 _
    have kc := conv_text w2 s
    clear T hs
    simp only []
    go_wp2_with fail
    go_ret
    exact HF.out
  · simp only [show (((3 : Nat) : Int)) = 3 from rfl] at *
    have HF : Hid (U8P (J.written (JB.mk 3 b n t ns vs).toJ) w (.returned (.slice (some ⟨W1.heap.size, 0, none⟩) t.size (grownCap W1 t.size 0 5))) (Lib.bytesWorld W1 5 t)) := by
      rw [show J.written (JB.mk 3 b n t ns vs).toJ = numsOf t by simp [JB.toJ, J.written]]; exact bytes_told w W1 t _ rfl HB.out.1 _
    have kc := conv_text W1 t
    clear hn ht hk hsz
    go_enter Tryd.func42, Tryd.ntmps42
    go_upto_region 1 with fail
    rw [HW1.out]
    go_wp2_with fail
    go_ret
    exact HF.out
  · simp only [show (((4 : Nat) : Int)) = 4 from rfl] at *
    have T := dquoted_any t ht W1
    have HE : Hid (J.written (JB.mk 4 b n t ns vs).toJ = J.quoted (numsOf t)) := by show J.written _ = _; simp [JB.toJ, J.written]
    clear hn ht hk hsz
    go_enter Tryd.func42, Tryd.ntmps42
    go_upto_region 1 with fail
    rw [HW1.out]
    go_wp2_with fail
    refine T.mono ?_
    rintro e w2 ⟨p, m, c, rfl, hm, hbin, hp, hb⟩
    have HF : Hid (U8P (J.written (JB.mk 4 b n t ns vs).toJ) w (.returned (.slice p m c)) w2) := by
      rw [HE.out]; exact ⟨p, m, c, rfl, hm, hbin, hp, below_more HB.out.1 hb⟩
    clear T hm hbin hp hb
    simp only []
    go_wp2_with fail
    go_ret
    exact HF.out
set_option maxHeartbeats 4000000 in
set_option maxRecDepth 100000 in
theorem dwritten_list (b : Bool) (n : Int) (t : ByteArray) (ns : List ByteArray) (vs : List JB) (nq iq : Option Addr) (nc ic : Nat) (F : Nat → Array Value) (Z : Nat → Prop) (w : World)
    (hN : SsIn w Z nq ns) (hI : VsIn w Z iq F vs.length) (hR : ∀ i x, vs[i]? = some x → JIn w Z (F i) x) (hl : vs.length ≤ 18000) (hs : ∀ s ∈ ns, s.size ≤ 16384) (hP : ∀ i, i ≤ vs.length → (preT false (ns.map numsOf) (toJs vs) i).length ≤ 500000) (hW : ∀ (i : Nat) (x : JB), vs[i]? = some x → (J.written x.toJ).length ≤ 500000)
    (hcall : ∀ i x, vs[i]? = some x → ∀ w', Below w.heap.size w w' → Calls Tryd.prog 42 #[.agg (F i)] w' fun e w'' => U8P (J.written x.toJ) w' e w'') :
    Calls Tryd.prog 42 #[.agg (jA 5 b n t nq ns.length nc iq vs.length ic)] w fun e w' => U8P (J.written (JB.mk 5 b n t ns vs).toJ) w e w' := by
  obtain ⟨N, hN2⟩ : ∃ N, vs.length = N := ⟨_, rfl⟩
  obtain ⟨nl, hnl⟩ : ∃ nl, ns.length = nl := ⟨_, rfl⟩
  obtain ⟨P, hPe⟩ : ∃ P : Nat → List Nat, (fun i => 91 :: preT false (ns.map numsOf) (toJs vs) i) = P := ⟨_, rfl⟩
  have HP : Hid (∀ i, P i = 91 :: preT false (ns.map numsOf) (toJs vs) i) := fun i => by rw [← hPe]
  have HH : Hid (SsIn w Z nq ns ∧ VsIn w Z iq F N ∧ (∀ i x, vs[i]? = some x → JIn w Z (F i) x) ∧ vs.length = N ∧ ns.length = nl ∧ (∀ s ∈ ns, s.size ≤ 16384)) := ⟨hN, by rw [← hN2]; exact hI, hR, hN2, hnl, hs⟩
  have HL : Hid ((∀ i, i ≤ N → (P i).length ≤ 500001) ∧ (∀ (i : Nat) (x : JB), vs[i]? = some x → (J.written x.toJ).length ≤ 500000) ∧ N ≤ 18000) := ⟨fun i hi => by rw [HP.out i, List.length_cons]; have := hP i (by omega); omega, hW, by omega⟩
  have HC : Hid (∀ i x, vs[i]? = some x → ∀ w', Below w.heap.size w w' → Calls Tryd.prog 42 #[.agg (F i)] w' fun e w'' => U8P (J.written x.toJ) w' e w'') := hcall
  have HNN : Hid (True) := by show True; trivial
  have HE : Hid (J.written (JB.mk 5 b n t ns vs).toJ = P N ++ [93]) := by
    show J.written _ = _
    rw [HP.out N, ← hN2, ← toJs_len vs, pre_all]
    exact written_five _ _ _ _ _
  have hmx : (N : Int) ≤ 18000 := by omega
  rw [hN2, hnl]
  have b1 := below_new w (.cells (jA 5 b n t nq nl nc iq N ic) 25)
  have n1 := _root_.Go.heap_alloc_new w (.cells (jA 5 b n t nq nl nc iq N ic) 25)
  obtain ⟨W1, hW1⟩ : ∃ x, w.alloc (.cells (jA 5 b n t nq nl nc iq N ic) 25) = x := ⟨_, rfl⟩
  have hsz : W1.heap.size = w.heap.size + 1 := by rw [← hW1]; simp
  rw [hW1] at b1 n1
  obtain ⟨⟨c0, c1, c2, c3, c4, c5⟩, _, _, _, _, _, _⟩ := row6_cells n1
  obtain ⟨bx, hbx⟩ : ∃ x : Obj, x = .cells (jA 5 b n t nq nl nc iq N ic) 25 (0, 0) := ⟨_, rfl⟩
  have HBX : Hid (bx = .cells (jA 5 b n t nq nl nc iq N ic) 25 (0, 0)) := hbx
  have H0 : Hid (WtS bx w (W1.alloc (.cells #[.int .u8 91] 5)) (.slice (some ⟨W1.heap.size, 0, none⟩) 1 1) (P 0)) := by
    have e0 : P 0 = [91] := HP.out 0
    rw [e0]
    have o0 := World.ownsRow_lit (e := 5) (size := 1) (base := w.heap.size + 1) W1 #[.int .u8 91] 1 (by omega) (by decide) rfl
    exact ⟨o0, below_more b1 (below_new _ _), by rw [hbx]; exact box_below n1 (below_new _ _), by decide⟩
  unfold jA at hW1 HBX ⊢
  have HW1 : Hid (_ = W1) := hW1
  have n2 := (box_below n1 (below_new W1 (.cells #[.int .u8 91] 5)))
  obtain ⟨⟨d0, d1, d2, d3, d4, d5⟩, _, _, _, _, _, _⟩ := row6_cells n2
  clear n2
  simp only [show (((5 : Nat) : Int)) = 5 from rfl] at *
  clear hN hI hR hl hs hP hW hcall hN2 hnl hPe b1 n1 hW1 hbx hsz
  go_enter Tryd.func42, Tryd.ntmps42
  go_upto_region 1 with fail
  rw [HW1.out]
  go_wp2_with fail
  clear c0 c1 c2 c3 c4 c5 d0 d1 d2 d3 d4 d5
  go_loopw [3, 5] (fun v t wr => WtI N bx w P v t wr) (fun _ t _ => N - (intOf t).toNat)
  case atStart => exact ⟨0, Nat.zero_le _, rfl, H0.out⟩
  case round =>
    clear H0
    obtain ⟨i, hi, rfl, hS⟩ := hrel
    have hbx := hS.box
    rw [HBX.out] at hbx
    obtain ⟨⟨r0, r1, r2, r3, r4, r5⟩, _, _, _, _, _, _⟩ := row6_cells hbx
    clear hbx
    by_cases hlt : i < N
    · have hiI : (i : Int) < (N : Int) := by omega
      have hi0 : (0 : Int) ≤ (i : Int) := by omega
      have HSL : Hid (WtS bx w wr u3 (P i) ∧ (P i).length ≤ 500001 ∧ i < N ∧ w.heap.size + 1 ≤ wr.heap.size) := ⟨hS, HL.out.1 i (by omega), hlt, hS.sz⟩
      obtain ⟨x, hx⟩ : ∃ x, vs[i]? = some x := ⟨_, List.getElem?_eq_getElem (by have := HH.out.2.2.2.1; omega)⟩
      have HT : Hid (P (i + 1) = (P i ++ (if i = 0 then [] else [44])) ++ J.written x.toJ) := by
        show P (i + 1) = _
        rw [HP.out, HP.out i]; exact pre_next _ false ns vs i x ByteArray.empty hx (fun h => by cases h)
      obtain ⟨ib, io, rfl⟩ := HH.out.2.1.addr (by omega)
      have hcells := (HH.out.2.1.at hlt).2
      obtain ⟨k', b', n', t', nq', nl', nc', iq', il', ic', hF⟩ := jin_form (HH.out.2.2.1 i x hx)
      have HCx := HC.out i x hx
      have hWl := HL.out.2.1 i x hx
      have hWb := wr_bytes x
      rw [hF] at hcells HCx
      have HJ : Hid (∀ w', Below w.heap.size w w' → JAt w' ib (io + i * 6) k' b' n' t' (.slice nq' nl' nc') (.slice iq' il' ic')) := fun w' hb => (jat_of hcells).below hb
      generalize J.written x.toJ = X at HT HCx hWl hWb
      have HX : Hid (X.length ≤ 500000 ∧ ∀ y ∈ X, y < 256) := ⟨hWl, hWb⟩
      unfold jA at HCx
      have HCX : Hid (∀ w', Below w.heap.size w w' → Calls Tryd.prog 42 #[.agg #[.int .u8 (k' : Int), .bool b', .int .i64 n', .string t', .slice nq' nl' nc', .slice iq' il' ic']] w' fun e w'' => U8P X w' e w'') := HCx
      clear hS hi hlt hcells hF HCx hWl hWb hx
      generalize P i = xs at HSL HT
      by_cases h0 : i = 0
      · subst h0
        rw [if_pos rfl, List.append_nil] at HT
        simp only [show (((0 : Nat) : Int)) = 0 from rfl] at *
        obtain ⟨z0, z1, z2, z3, z4, z5⟩ := HJ.out wr HSL.out.1.below
        simp only [Nat.zero_mul, Nat.add_zero] at z0 z1 z2 z3 z4 z5
        have CX := HCX.out wr HSL.out.1.below
        go_wp2_with fail
        refine CX.mono ?_
        rintro e w5 ⟨p5, m5, q5, rfl, hm5, hbin5, hp5, hb5⟩
        have HS5 : Hid (WtS bx w w5 u3 (xs)) := HSL.out.1.more hb5
        have HY5 : Hid (m5 = X.length ∧ BIn w5 p5 X ∧ (p5 = none → q5 = 0) ∧ w.heap.size + 1 ≤ w5.heap.size) := ⟨hm5, hbin5, hp5, HS5.out.sz⟩
        clear CX hm5 hbin5 hp5 hb5 z0 z1 z2 z3 z4 z5 r0 r1 r2 r3 r4 r5
        simp only []
        go_wp2_with (at_builtin; refine wpList_append_bytesj _ rfl _ _ rfl (w.heap.size + 1) u3 (xs) X p5 m5 q5 rfl rfl HY5.out.1 HS5.out.own HY5.out.2.1 HY5.out.2.2.1 (by have := HSL.out.2.1; have := HX.out.1; simp; omega) HY5.out.2.2.2 ?_; intro v6 w6 ho hg)
        have HS6 : Hid (WtS bx w w6 v6 (xs ++ X)) := HS5.out.app hg ho HX.out.2
        clear ho hg HS5 HY5
        go_wp2_with fail
        go_roundw
        case rel => exact ⟨0 + 1, by have := HSL.out.2.2.1; omega, by go_num, by rw [HT.out]; have := HS6.out; simpa [List.append_assoc] using this⟩
        case measure => have := HSL.out.2.2.1; simp [intOf]; omega
      · have hip : (0 : Int) < (i : Int) := by omega
        rw [if_neg h0] at HT
        clear h0
        have HN : Hid (BIn (wr.alloc (.cells #[.int .u8 44] 5)) (some ⟨wr.heap.size, 0, none⟩) [44]) := bin_nums (ys := [44]) rfl (by decide)
        go_upto_region 24 with (at_builtin; refine wpList_append_bytesj _ rfl _ _ rfl (w.heap.size + 1) u3 (xs) [44] (some ⟨wr.heap.size, 0, none⟩) 1 1 rfl rfl rfl (HSL.out.1.own.alloc _) HN.out (fun h => by cases h) (by have := HSL.out.2.1; simp; omega) (by have := HSL.out.1.sz; simp; omega) ?_; intro v1 w1 ho hg)
        have HSw1 : Hid (WtS bx w w1 v1 (xs ++ [44])) := (HSL.out.1.more (below_new _ _)).app hg ho (by decide)
        clear ho hg HN r0 r1 r2 r3 r4 r5
        have hbx := HSw1.out.box
        rw [HBX.out] at hbx
        obtain ⟨⟨r0, r1, r2, r3, r4, r5⟩, _, _, _, _, _, _⟩ := row6_cells hbx
        clear hbx
        obtain ⟨z0, z1, z2, z3, z4, z5⟩ := HJ.out w1 HSw1.out.below
        have CX := HCX.out w1 HSw1.out.below
        go_wp2_with fail
        refine CX.mono ?_
        rintro e w5 ⟨p5, m5, q5, rfl, hm5, hbin5, hp5, hb5⟩
        have HS5 : Hid (WtS bx w w5 v1 (xs ++ [44])) := HSw1.out.more hb5
        have HY5 : Hid (m5 = X.length ∧ BIn w5 p5 X ∧ (p5 = none → q5 = 0) ∧ w.heap.size + 1 ≤ w5.heap.size) := ⟨hm5, hbin5, hp5, HS5.out.sz⟩
        clear CX hm5 hbin5 hp5 hb5 z0 z1 z2 z3 z4 z5 r0 r1 r2 r3 r4 r5
        simp only []
        go_wp2_with (at_builtin; refine wpList_append_bytesj _ rfl _ _ rfl (w.heap.size + 1) v1 (xs ++ [44]) X p5 m5 q5 rfl rfl HY5.out.1 HS5.out.own HY5.out.2.1 HY5.out.2.2.1 (by have := HSL.out.2.1; have := HX.out.1; simp; omega) HY5.out.2.2.2 ?_; intro v6 w6 ho hg)
        have HS6 : Hid (WtS bx w w6 v6 (xs ++ [44] ++ X)) := HS5.out.app hg ho HX.out.2
        clear ho hg HS5 HY5
        go_wp2_with fail
        go_roundw
        case rel => exact ⟨i + 1, by have := HSL.out.2.2.1; omega, by go_num, by rw [HT.out]; have := HS6.out; simpa [List.append_assoc] using this⟩
        case measure => have := HSL.out.2.2.1; simp [intOf]; omega
    · obtain rfl : i = N := by omega
      have HS : Hid (WtS bx w wr u3 (P i) ∧ (P i).length ≤ 500001) := ⟨hS, HL.out.1 i (Nat.le_refl _)⟩
      have HN : Hid (BIn (wr.alloc (.cells #[.int .u8 93] 5)) (some ⟨wr.heap.size, 0, none⟩) [93]) := bin_nums (ys := [93]) rfl (by decide)
      generalize P i = xs at HS HE
      clear hS hi hlt
      go_wp2_with (at_builtin; refine wpList_append_bytesj _ rfl _ _ rfl (w.heap.size + 1) u3 xs [93] (some ⟨wr.heap.size, 0, none⟩) 1 1 rfl rfl rfl (HS.out.1.own.alloc _) HN.out (fun h => by cases h) (by have := HS.out.2; simp; omega) (by have := HS.out.1.sz; simp; omega) ?_; intro v6 w6 ho hg)
      have HF : Hid (U8P (xs ++ [93]) w (.returned v6) w6) := ((HS.out.1.more (below_new _ _)).app hg ho (by decide)).told
      clear ho hg HN r0 r1 r2 r3 r4 r5
      go_wp2_with fail
      go_ret
      rw [HE.out]
      exact HF.out
set_option maxHeartbeats 4000000 in
set_option maxRecDepth 100000 in
theorem dwritten_object (b : Bool) (n : Int) (t : ByteArray) (ns : List ByteArray) (vs : List JB) (nq iq : Option Addr) (nc ic : Nat) (F : Nat → Array Value) (Z : Nat → Prop) (w : World)
    (hN : SsIn w Z nq ns) (hI : VsIn w Z iq F vs.length) (hR : ∀ i x, vs[i]? = some x → JIn w Z (F i) x) (hl : vs.length ≤ 18000) (hnn : ns.length = vs.length) (hs : ∀ s ∈ ns, s.size ≤ 16384) (hP : ∀ i, i ≤ vs.length → (preT true (ns.map numsOf) (toJs vs) i).length ≤ 500000) (hW : ∀ (i : Nat) (x : JB), vs[i]? = some x → (J.written x.toJ).length ≤ 500000)
    (hcall : ∀ i x, vs[i]? = some x → ∀ w', Below w.heap.size w w' → Calls Tryd.prog 42 #[.agg (F i)] w' fun e w'' => U8P (J.written x.toJ) w' e w'') :
    Calls Tryd.prog 42 #[.agg (jA 6 b n t nq ns.length nc iq vs.length ic)] w fun e w' => U8P (J.written (JB.mk 6 b n t ns vs).toJ) w e w' := by
  obtain ⟨N, hN2⟩ : ∃ N, vs.length = N := ⟨_, rfl⟩
  obtain ⟨nl, hnl⟩ : ∃ nl, ns.length = nl := ⟨_, rfl⟩
  obtain ⟨P, hPe⟩ : ∃ P : Nat → List Nat, (fun i => 123 :: preT true (ns.map numsOf) (toJs vs) i) = P := ⟨_, rfl⟩
  have HP : Hid (∀ i, P i = 123 :: preT true (ns.map numsOf) (toJs vs) i) := fun i => by rw [← hPe]
  have HH : Hid (SsIn w Z nq ns ∧ VsIn w Z iq F N ∧ (∀ i x, vs[i]? = some x → JIn w Z (F i) x) ∧ vs.length = N ∧ ns.length = nl ∧ (∀ s ∈ ns, s.size ≤ 16384)) := ⟨hN, by rw [← hN2]; exact hI, hR, hN2, hnl, hs⟩
  have HL : Hid ((∀ i, i ≤ N → (P i).length ≤ 500001) ∧ (∀ (i : Nat) (x : JB), vs[i]? = some x → (J.written x.toJ).length ≤ 500000) ∧ N ≤ 18000) := ⟨fun i hi => by rw [HP.out i, List.length_cons]; have := hP i (by omega); omega, hW, by omega⟩
  have HC : Hid (∀ i x, vs[i]? = some x → ∀ w', Below w.heap.size w w' → Calls Tryd.prog 42 #[.agg (F i)] w' fun e w'' => U8P (J.written x.toJ) w' e w'') := hcall
  have HNN : Hid (nl = N) := by show nl = N; omega
  have HE : Hid (J.written (JB.mk 6 b n t ns vs).toJ = P N ++ [125]) := by
    show J.written _ = _
    rw [HP.out N, ← hN2, ← toJs_len vs, pre_all]
    exact written_six _ _ _ _ _
  have hmx : (N : Int) ≤ 18000 := by omega
  rw [hN2, hnl]
  have b1 := below_new w (.cells (jA 6 b n t nq nl nc iq N ic) 25)
  have n1 := _root_.Go.heap_alloc_new w (.cells (jA 6 b n t nq nl nc iq N ic) 25)
  obtain ⟨W1, hW1⟩ : ∃ x, w.alloc (.cells (jA 6 b n t nq nl nc iq N ic) 25) = x := ⟨_, rfl⟩
  have hsz : W1.heap.size = w.heap.size + 1 := by rw [← hW1]; simp
  rw [hW1] at b1 n1
  obtain ⟨⟨c0, c1, c2, c3, c4, c5⟩, _, _, _, _, _, _⟩ := row6_cells n1
  obtain ⟨bx, hbx⟩ : ∃ x : Obj, x = .cells (jA 6 b n t nq nl nc iq N ic) 25 (0, 0) := ⟨_, rfl⟩
  have HBX : Hid (bx = .cells (jA 6 b n t nq nl nc iq N ic) 25 (0, 0)) := hbx
  have H0 : Hid (WtS bx w ((W1.alloc (.cells #[.int .u8 91] 5)).alloc (.cells #[.int .u8 123] 5)) (.slice (some ⟨W1.heap.size + 1, 0, none⟩) 1 1) (P 0)) := by
    have e0 : P 0 = [123] := HP.out 0
    rw [e0]
    have o0 := World.ownsRow_lit (e := 5) (size := 1) (base := w.heap.size + 1) (W1.alloc (.cells #[.int .u8 91] 5)) #[.int .u8 123] 1 (by simp; omega) (by decide) rfl
    simp only [World.size_alloc] at o0
    exact ⟨o0, below_more (below_more b1 (below_new _ _)) (below_new _ _), by rw [hbx]; exact box_below (box_below n1 (below_new _ _)) (below_new _ _), by decide⟩
  unfold jA at hW1 HBX ⊢
  have HW1 : Hid (_ = W1) := hW1
  have n2 := (box_below n1 (below_new W1 (.cells #[.int .u8 91] 5)))
  obtain ⟨⟨d0, d1, d2, d3, d4, d5⟩, _, _, _, _, _, _⟩ := row6_cells n2
  clear n2
  simp only [show (((6 : Nat) : Int)) = 6 from rfl] at *
  clear hN hI hR hl hnn hs hP hW hcall hN2 hnl hPe b1 n1 hW1 hbx hsz
  go_enter Tryd.func42, Tryd.ntmps42
  go_upto_region 1 with fail
  rw [HW1.out]
  go_wp2_with fail
  clear c0 c1 c2 c3 c4 c5 d0 d1 d2 d3 d4 d5
  go_loopw [3, 5] (fun v t wr => WtI N bx w P v t wr) (fun _ t _ => N - (intOf t).toNat)
  case atStart => exact ⟨0, Nat.zero_le _, rfl, H0.out⟩
  case round =>
    clear H0
    obtain ⟨i, hi, rfl, hS⟩ := hrel
    have hbx := hS.box
    rw [HBX.out] at hbx
    obtain ⟨⟨r0, r1, r2, r3, r4, r5⟩, _, _, _, _, _, _⟩ := row6_cells hbx
    clear hbx
    by_cases hlt : i < N
    · have hiI : (i : Int) < (N : Int) := by omega
      have hi0 : (0 : Int) ≤ (i : Int) := by omega
      have HSL : Hid (WtS bx w wr u3 (P i) ∧ (P i).length ≤ 500001 ∧ i < N ∧ w.heap.size + 1 ≤ wr.heap.size) := ⟨hS, HL.out.1 i (by omega), hlt, hS.sz⟩
      obtain ⟨x, hx⟩ : ∃ x, vs[i]? = some x := ⟨_, List.getElem?_eq_getElem (by have := HH.out.2.2.2.1; omega)⟩
      obtain ⟨s, hsi⟩ : ∃ s, ns[i]? = some s := ⟨_, List.getElem?_eq_getElem (by have := HH.out.2.2.2.2.1; have := HNN.out; omega)⟩
      have hs16 : s.size ≤ 16384 := HH.out.2.2.2.2.2 s (List.mem_of_getElem? hsi)
      obtain ⟨ab, ao, rfl⟩ := HH.out.1.addr (by have := HH.out.2.2.2.2.1; have := HNN.out; omega)
      have hcell := HH.out.1.at (i := i) (by have := HH.out.2.2.2.2.1; have := HNN.out; omega)
      rw [List.getD_eq_getElem?_getD, hsi, Option.getD_some] at hcell
      have hnI : (i : Int) < (nl : Int) := by have := HNN.out; omega
      have HCE : Hid (w.cell? ⟨ab, ao + i, none⟩ = some (.string s) ∧ s.size ≤ 16384) := ⟨hcell, hs16⟩
      have HT : Hid (P (i + 1) = (P i ++ (if i = 0 then [] else [44])) ++ ((if true then J.quoted (numsOf s) ++ [58] else []) ++ J.written x.toJ)) := by
        show P (i + 1) = _
        rw [HP.out, HP.out i]; exact pre_next _ true ns vs i x s hx (fun _ => hsi)
      obtain ⟨ib, io, rfl⟩ := HH.out.2.1.addr (by omega)
      have hcells := (HH.out.2.1.at hlt).2
      obtain ⟨k', b', n', t', nq', nl', nc', iq', il', ic', hF⟩ := jin_form (HH.out.2.2.1 i x hx)
      have HCx := HC.out i x hx
      have hWl := HL.out.2.1 i x hx
      have hWb := wr_bytes x
      rw [hF] at hcells HCx
      have HJ : Hid (∀ w', Below w.heap.size w w' → JAt w' ib (io + i * 6) k' b' n' t' (.slice nq' nl' nc') (.slice iq' il' ic')) := fun w' hb => (jat_of hcells).below hb
      generalize J.written x.toJ = X at HT HCx hWl hWb
      have HX : Hid (X.length ≤ 500000 ∧ ∀ y ∈ X, y < 256) := ⟨hWl, hWb⟩
      unfold jA at HCx
      have HCX : Hid (∀ w', Below w.heap.size w w' → Calls Tryd.prog 42 #[.agg #[.int .u8 (k' : Int), .bool b', .int .i64 n', .string t', .slice nq' nl' nc', .slice iq' il' ic']] w' fun e w'' => U8P X w' e w'') := HCx
      clear hS hi hlt hcells hF HCx hWl hWb hx hsi hs16 hcell
      generalize P i = xs at HSL HT
      by_cases h0 : i = 0
      · subst h0
        rw [if_pos rfl, List.append_nil] at HT
        simp only [show (((0 : Nat) : Int)) = 0 from rfl] at *
        have y1 := below_cell HCE.out.1 HSL.out.1.below
        simp only [Nat.add_zero] at y1
        have QX := dquoted_any s HCE.out.2 wr
        go_wp2_with fail
        refine QX.mono ?_
        rintro e w2 ⟨p2, m2, q2, rfl, hm2, hbin2, hp2, hb2⟩
        have HS2 : Hid (WtS bx w w2 u3 (xs)) := HSL.out.1.more hb2
        have hq2 := quoted_len s HCE.out.2
        have hq3 := quoted_bytes s
        have hbase2 := HS2.out.sz
        generalize J.quoted (numsOf s) = Y at HT hm2 hbin2 hq2 hq3
        have HY : Hid (m2 = Y.length ∧ BIn w2 p2 Y ∧ (p2 = none → q2 = 0) ∧ Y.length ≤ 98306 ∧ (∀ y ∈ Y, y < 256) ∧ w.heap.size + 1 ≤ w2.heap.size) := ⟨hm2, hbin2, hp2, hq2, hq3, hbase2⟩
        clear QX y1 hm2 hbin2 hp2 hb2 hq2 hq3 hbase2 r0 r1 r2 r3 r4 r5
        simp only []
        go_upto_region 26 with (at_builtin; refine wpList_append_bytesj _ rfl _ _ rfl (w.heap.size + 1) u3 (xs) Y p2 m2 q2 rfl rfl HY.out.1 HS2.out.own HY.out.2.1 HY.out.2.2.1 (by have := HSL.out.2.1; have := HY.out.2.2.2.1; simp; omega) HY.out.2.2.2.2.2 ?_; intro v3 w3 ho hg)
        have HS3 : Hid (WtS bx w w3 v3 (xs ++ Y)) := HS2.out.app hg ho HY.out.2.2.2.2.1
        have HY4 : Hid (Y.length ≤ 98306) := HY.out.2.2.2.1
        clear ho hg HS2 HY
        have HN : Hid (BIn (w3.alloc (.cells #[.int .u8 58] 5)) (some ⟨w3.heap.size, 0, none⟩) [58]) := bin_nums (ys := [58]) rfl (by decide)
        have hbx := HS3.out.box
        rw [HBX.out] at hbx
        obtain ⟨⟨r0, r1, r2, r3, r4, r5⟩, _, _, _, _, _, _⟩ := row6_cells hbx
        clear hbx
        go_upto_region 27 with (at_builtin; refine wpList_append_bytesj _ rfl _ _ rfl (w.heap.size + 1) v3 (xs ++ Y) [58] (some ⟨w3.heap.size, 0, none⟩) 1 1 rfl rfl rfl (HS3.out.own.alloc _) HN.out (fun h => by cases h) (by have := HSL.out.2.1; have := HY4.out; simp; omega) (by have := HS3.out.sz; simp; omega) ?_; intro v4 w4 ho hg)
        have HS4 : Hid (WtS bx w w4 v4 (xs ++ Y ++ [58])) := (HS3.out.more (below_new _ _)).app hg ho (by decide)
        clear ho hg HN r0 r1 r2 r3 r4 r5
        have hbx := HS4.out.box
        rw [HBX.out] at hbx
        obtain ⟨⟨r0, r1, r2, r3, r4, r5⟩, _, _, _, _, _, _⟩ := row6_cells hbx
        clear hbx
        obtain ⟨z0, z1, z2, z3, z4, z5⟩ := HJ.out w4 HS4.out.below
        simp only [Nat.zero_mul, Nat.add_zero] at z0 z1 z2 z3 z4 z5
        have CX := HCX.out w4 HS4.out.below
        go_wp2_with fail
        refine CX.mono ?_
        rintro e w5 ⟨p5, m5, q5, rfl, hm5, hbin5, hp5, hb5⟩
        have HS5 : Hid (WtS bx w w5 v4 (xs ++ Y ++ [58])) := HS4.out.more hb5
        have HY5 : Hid (m5 = X.length ∧ BIn w5 p5 X ∧ (p5 = none → q5 = 0) ∧ w.heap.size + 1 ≤ w5.heap.size) := ⟨hm5, hbin5, hp5, HS5.out.sz⟩
        clear CX hm5 hbin5 hp5 hb5 z0 z1 z2 z3 z4 z5 r0 r1 r2 r3 r4 r5
        simp only []
        go_wp2_with (at_builtin; refine wpList_append_bytesj _ rfl _ _ rfl (w.heap.size + 1) v4 (xs ++ Y ++ [58]) X p5 m5 q5 rfl rfl HY5.out.1 HS5.out.own HY5.out.2.1 HY5.out.2.2.1 (by have := HSL.out.2.1; have := HY4.out; have := HX.out.1; simp; omega) HY5.out.2.2.2 ?_; intro v6 w6 ho hg)
        have HS6 : Hid (WtS bx w w6 v6 (xs ++ Y ++ [58] ++ X)) := HS5.out.app hg ho HX.out.2
        clear ho hg HS5 HY5
        go_wp2_with fail
        go_roundw
        case rel => exact ⟨0 + 1, by have := HSL.out.2.2.1; omega, by go_num, by rw [HT.out]; have := HS6.out; simpa [List.append_assoc] using this⟩
        case measure => have := HSL.out.2.2.1; simp [intOf]; omega
      · have hip : (0 : Int) < (i : Int) := by omega
        rw [if_neg h0] at HT
        clear h0
        have HN : Hid (BIn (wr.alloc (.cells #[.int .u8 44] 5)) (some ⟨wr.heap.size, 0, none⟩) [44]) := bin_nums (ys := [44]) rfl (by decide)
        go_upto_region 24 with (at_builtin; refine wpList_append_bytesj _ rfl _ _ rfl (w.heap.size + 1) u3 (xs) [44] (some ⟨wr.heap.size, 0, none⟩) 1 1 rfl rfl rfl (HSL.out.1.own.alloc _) HN.out (fun h => by cases h) (by have := HSL.out.2.1; simp; omega) (by have := HSL.out.1.sz; simp; omega) ?_; intro v1 w1 ho hg)
        have HSw1 : Hid (WtS bx w w1 v1 (xs ++ [44])) := (HSL.out.1.more (below_new _ _)).app hg ho (by decide)
        clear ho hg HN r0 r1 r2 r3 r4 r5
        have hbx := HSw1.out.box
        rw [HBX.out] at hbx
        obtain ⟨⟨r0, r1, r2, r3, r4, r5⟩, _, _, _, _, _, _⟩ := row6_cells hbx
        clear hbx
        have y1 := below_cell HCE.out.1 HSw1.out.below
        have QX := dquoted_any s HCE.out.2 w1
        go_wp2_with fail
        refine QX.mono ?_
        rintro e w2 ⟨p2, m2, q2, rfl, hm2, hbin2, hp2, hb2⟩
        have HS2 : Hid (WtS bx w w2 v1 (xs ++ [44])) := HSw1.out.more hb2
        have hq2 := quoted_len s HCE.out.2
        have hq3 := quoted_bytes s
        have hbase2 := HS2.out.sz
        generalize J.quoted (numsOf s) = Y at HT hm2 hbin2 hq2 hq3
        have HY : Hid (m2 = Y.length ∧ BIn w2 p2 Y ∧ (p2 = none → q2 = 0) ∧ Y.length ≤ 98306 ∧ (∀ y ∈ Y, y < 256) ∧ w.heap.size + 1 ≤ w2.heap.size) := ⟨hm2, hbin2, hp2, hq2, hq3, hbase2⟩
        clear QX y1 hm2 hbin2 hp2 hb2 hq2 hq3 hbase2 r0 r1 r2 r3 r4 r5
        simp only []
        go_upto_region 26 with (at_builtin; refine wpList_append_bytesj _ rfl _ _ rfl (w.heap.size + 1) v1 (xs ++ [44]) Y p2 m2 q2 rfl rfl HY.out.1 HS2.out.own HY.out.2.1 HY.out.2.2.1 (by have := HSL.out.2.1; have := HY.out.2.2.2.1; simp; omega) HY.out.2.2.2.2.2 ?_; intro v3 w3 ho hg)
        have HS3 : Hid (WtS bx w w3 v3 (xs ++ [44] ++ Y)) := HS2.out.app hg ho HY.out.2.2.2.2.1
        have HY4 : Hid (Y.length ≤ 98306) := HY.out.2.2.2.1
        clear ho hg HS2 HY
        have HN : Hid (BIn (w3.alloc (.cells #[.int .u8 58] 5)) (some ⟨w3.heap.size, 0, none⟩) [58]) := bin_nums (ys := [58]) rfl (by decide)
        have hbx := HS3.out.box
        rw [HBX.out] at hbx
        obtain ⟨⟨r0, r1, r2, r3, r4, r5⟩, _, _, _, _, _, _⟩ := row6_cells hbx
        clear hbx
        go_upto_region 27 with (at_builtin; refine wpList_append_bytesj _ rfl _ _ rfl (w.heap.size + 1) v3 (xs ++ [44] ++ Y) [58] (some ⟨w3.heap.size, 0, none⟩) 1 1 rfl rfl rfl (HS3.out.own.alloc _) HN.out (fun h => by cases h) (by have := HSL.out.2.1; have := HY4.out; simp; omega) (by have := HS3.out.sz; simp; omega) ?_; intro v4 w4 ho hg)
        have HS4 : Hid (WtS bx w w4 v4 (xs ++ [44] ++ Y ++ [58])) := (HS3.out.more (below_new _ _)).app hg ho (by decide)
        clear ho hg HN r0 r1 r2 r3 r4 r5
        have hbx := HS4.out.box
        rw [HBX.out] at hbx
        obtain ⟨⟨r0, r1, r2, r3, r4, r5⟩, _, _, _, _, _, _⟩ := row6_cells hbx
        clear hbx
        obtain ⟨z0, z1, z2, z3, z4, z5⟩ := HJ.out w4 HS4.out.below
        have CX := HCX.out w4 HS4.out.below
        go_wp2_with fail
        refine CX.mono ?_
        rintro e w5 ⟨p5, m5, q5, rfl, hm5, hbin5, hp5, hb5⟩
        have HS5 : Hid (WtS bx w w5 v4 (xs ++ [44] ++ Y ++ [58])) := HS4.out.more hb5
        have HY5 : Hid (m5 = X.length ∧ BIn w5 p5 X ∧ (p5 = none → q5 = 0) ∧ w.heap.size + 1 ≤ w5.heap.size) := ⟨hm5, hbin5, hp5, HS5.out.sz⟩
        clear CX hm5 hbin5 hp5 hb5 z0 z1 z2 z3 z4 z5 r0 r1 r2 r3 r4 r5
        simp only []
        go_wp2_with (at_builtin; refine wpList_append_bytesj _ rfl _ _ rfl (w.heap.size + 1) v4 (xs ++ [44] ++ Y ++ [58]) X p5 m5 q5 rfl rfl HY5.out.1 HS5.out.own HY5.out.2.1 HY5.out.2.2.1 (by have := HSL.out.2.1; have := HY4.out; have := HX.out.1; simp; omega) HY5.out.2.2.2 ?_; intro v6 w6 ho hg)
        have HS6 : Hid (WtS bx w w6 v6 (xs ++ [44] ++ Y ++ [58] ++ X)) := HS5.out.app hg ho HX.out.2
        clear ho hg HS5 HY5
        go_wp2_with fail
        go_roundw
        case rel => exact ⟨i + 1, by have := HSL.out.2.2.1; omega, by go_num, by rw [HT.out]; have := HS6.out; simpa [List.append_assoc] using this⟩
        case measure => have := HSL.out.2.2.1; simp [intOf]; omega
    · obtain rfl : i = N := by omega
      have HS : Hid (WtS bx w wr u3 (P i) ∧ (P i).length ≤ 500001) := ⟨hS, HL.out.1 i (Nat.le_refl _)⟩
      have HN : Hid (BIn (wr.alloc (.cells #[.int .u8 125] 5)) (some ⟨wr.heap.size, 0, none⟩) [125]) := bin_nums (ys := [125]) rfl (by decide)
      generalize P i = xs at HS HE
      clear hS hi hlt
      go_wp2_with (at_builtin; refine wpList_append_bytesj _ rfl _ _ rfl (w.heap.size + 1) u3 xs [125] (some ⟨wr.heap.size, 0, none⟩) 1 1 rfl rfl rfl (HS.out.1.own.alloc _) HN.out (fun h => by cases h) (by have := HS.out.2; simp; omega) (by have := HS.out.1.sz; simp; omega) ?_; intro v6 w6 ho hg)
      have HF : Hid (U8P (xs ++ [125]) w (.returned v6) w6) := ((HS.out.1.more (below_new _ _)).app hg ho (by decide)).told
      clear ho hg HN r0 r1 r2 r3 r4 r5
      go_wp2_with fail
      go_ret
      rw [HE.out]
      exact HF.out
theorem dwritten_any : ∀ (f : Nat) (v : JB), v.ht ≤ f → ∀ (A : Array Value) (Z : Nat → Prop) (w : World), Fit v → szB v ≤ 18000 → JIn w Z A v →
    Calls Tryd.prog 42 #[.agg A] w fun e w' => U8P (J.written v.toJ) w e w' := by
  intro f
  induction f with
  | zero =>
    intro v hv
    cases v
    simp only [JB.ht] at hv
    omega
  | succ f ih =>
    intro v hv A Z w hF hs h
    cases h with
    | mk k b n t ns vs nq iq nc ic F hk hn hnc hic hnm him hnq hiq hN hI hR =>
      simp only [JB.ht] at hv
      simp only [szB] at hs
      obtain ⟨h6, ht, hns, hln, hvs⟩ : k ≤ 6 ∧ t.size ≤ 16384 ∧ (∀ s ∈ ns, s.size ≤ 16384) ∧ (k = 6 → ns.length = vs.length) ∧ ∀ v ∈ vs, Fit v := by
        cases hF with
        | mk _ _ _ _ _ _ a b c d e f => exact ⟨a, c, d, e, f⟩
      by_cases h4 : k ≤ 4
      · exact dwritten_flat k b n t ns vs nq iq ns.length nc vs.length ic w h4 hn ht
      have hat : ∀ (i : Nat) (x : JB), vs[i]? = some x → Fit x ∧ szB x ≤ szL vs := fun i x hx => ⟨hvs x (List.mem_of_getElem? hx), sz_at vs i x hx⟩
      have hlen : vs.length ≤ 18000 := Nat.le_trans (sz_len vs) (by omega)
      have hP : ∀ obj i, i ≤ vs.length → (preT obj (ns.map numsOf) (toJs vs) i).length ≤ 500000 := fun obj i hi => by
        have := pre_len obj ns vs hvs i hi
        omega
      have hWl : ∀ (i : Nat) (x : JB), vs[i]? = some x → (J.written x.toJ).length ≤ 500000 := fun i x hx => by
        have h1 := wr_len x (hat i x hx).1
        have h2 := (hat i x hx).2
        omega
      have hC : ∀ (i : Nat) (x : JB), vs[i]? = some x → ∀ w', Below w.heap.size w w' → Calls Tryd.prog 42 #[.agg (F i)] w' fun e w'' => U8P (J.written x.toJ) w' e w'' := fun i x hx w' hb =>
        ih x (by have := ht_at hx; omega) (F i) Z w' (hat i x hx).1 (by have := (hat i x hx).2; omega) ((hR i x hx).bel hb)
      by_cases h5 : k = 5
      · subst h5
        exact dwritten_list b n t ns vs nq iq nc ic F Z w hN hI hR hlen hns (hP false) hWl hC
      · obtain rfl : k = 6 := by omega
        exact dwritten_object b n t ns vs nq iq nc ic F Z w hN hI hR hlen (hln rfl) hns (hP true) hWl hC
end Go.Proofs.YtblnoekogdpolaaDoor
