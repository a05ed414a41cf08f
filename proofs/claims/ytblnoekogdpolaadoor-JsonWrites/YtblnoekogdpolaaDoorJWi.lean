import Derived.Test.YtblnoekogdpolaaDoorJWc
import Derived.Test.YtblnoekogdpolaaDoorJDSt
namespace Go.Proofs.YtblnoekogdpolaaDoor
open Go.RowKit Go.WideShapes Go.Joins
def Done (xs ys W : List Nat) : Prop := ys = W ∨ (16384 < (xs ++ ys).length ∧ 16384 < (xs ++ W).length)
theorem Done.refl (xs W : List Nat) : Done xs W W := .inl rfl
theorem Done.app {xs a b W1 W2 : List Nat} (h : Done xs a W1) (k : Done (xs ++ a) b W2) : Done xs (a ++ b) (W1 ++ W2) := by
  rcases h with rfl | ⟨h1, h2⟩
  · rcases k with rfl | ⟨k1, k2⟩
    · exact .inl rfl
    · exact .inr ⟨by rw [← List.append_assoc]; exact k1, by rw [← List.append_assoc]; exact k2⟩
  · refine .inr ⟨?_, ?_⟩
    · rw [← List.append_assoc, List.length_append]; omega
    · rw [← List.append_assoc, List.length_append]; omega
structure ValW (NB : Nat) (xs W : List Nat) (M : Nat) (w : World) (e : Ending) (w' : World) : Prop where
  ex : ∃ ys, e = .returned (.tuple #[]) ∧ Wr w' NB (xs ++ ys) ∧ WK NB w w' ∧ Done xs ys W ∧ (xs ++ ys).length ≤ M ∧ ∀ c ∈ ys, c < 256
def preT (obj : Bool) (ns : List (List Nat)) (vs : List J.JV) : Nat → List Nat
  | 0 => []
  | i + 1 => preT obj ns vs i ++ ((if i = 0 then [] else [44]) ++ ((if obj then J.quoted (ns.getD i []) ++ [58] else []) ++ J.written (vs.getD i (.mk 0 false 0 [] [] []))))
def restT (obj : Bool) (ns : List (List Nat)) (vs : List J.JV) (i : Nat) : List Nat :=
  if i = 0 then J.itemsT obj ns vs else if vs.length ≤ i then [] else 44 :: J.itemsT obj (ns.drop i) (vs.drop i)
theorem headD_drop (ns : List (List Nat)) (i : Nat) : (ns.drop i).headD [] = ns.getD i [] := by
  rw [List.headD_eq_head?_getD, List.head?_drop, List.getD_eq_getElem?_getD]
theorem rest_succ (obj : Bool) (ns : List (List Nat)) (vs : List J.JV) (i : Nat) : restT obj ns vs (i + 1) = if (vs.drop (i + 1)).isEmpty then [] else 44 :: J.itemsT obj (ns.drop (i + 1)) (vs.drop (i + 1)) := by
  unfold restT
  rw [if_neg (Nat.succ_ne_zero i)]
  by_cases hl : vs.length ≤ i + 1
  · rw [if_pos hl, List.drop_eq_nil_of_le hl]; rfl
  · have : (vs.drop (i + 1)).isEmpty = false := by
      cases h : vs.drop (i + 1) with
      | nil => have := congrArg List.length h; simp at this; omega
      | cons a l => rfl
    rw [if_neg hl, this]; rfl
theorem pre_rest (obj : Bool) (ns : List (List Nat)) (vs : List J.JV) : ∀ i, i ≤ vs.length → preT obj ns vs i ++ restT obj ns vs i = J.itemsT obj ns vs
  | 0, _ => rfl
  | i + 1, h => by
    rw [← pre_rest obj ns vs i (by omega)]
    simp only [preT, List.append_assoc]
    congr 1
    have hd : vs.drop i = vs.getD i (.mk 0 false 0 [] [] []) :: vs.drop (i + 1) := by
      rw [List.drop_eq_getElem_cons (by omega), List.getD_eq_getElem?_getD, List.getElem?_eq_getElem (by omega)]; rfl
    have key : J.itemsT obj (ns.drop i) (vs.drop i) = (if obj then J.quoted (ns.getD i []) ++ [58] else []) ++ (J.written (vs.getD i (.mk 0 false 0 [] [] [])) ++ restT obj ns vs (i + 1)) := by
      rw [hd]
      simp only [J.itemsT, headD_drop]
      rw [rest_succ, List.tail_drop]
    by_cases h0 : i = 0
    · subst h0
      rw [if_pos rfl, List.nil_append]
      have : restT obj ns vs 0 = J.itemsT obj ns vs := rfl
      rw [this]
      simpa using key.symm
    · rw [if_neg h0]
      have : restT obj ns vs i = 44 :: J.itemsT obj (ns.drop i) (vs.drop i) := by unfold restT; rw [if_neg h0, if_neg (by omega)]
      rw [this, key]
      rfl
theorem pre_all (obj : Bool) (ns : List (List Nat)) (vs : List J.JV) : preT obj ns vs vs.length = J.itemsT obj ns vs := by
  have h := pre_rest obj ns vs vs.length (Nat.le_refl _)
  have : restT obj ns vs vs.length = [] := by
    unfold restT
    split
    · rename_i h0
      rw [List.eq_nil_of_length_eq_zero h0]; rfl
    · rw [if_pos (Nat.le_refl _)]
  rw [this, List.append_nil] at h
  exact h
theorem esc_bytes {c : Nat} (hc : c < 256) : ∀ x ∈ J.esc c, x < 256 := by
  intro x hx
  unfold J.esc at hx
  repeat' split at hx
  all_goals simp only [List.mem_cons, List.not_mem_nil, or_false] at hx
  all_goals (try unfold J.hexC at hx)
  all_goals (try split at hx)
  all_goals omega
theorem quoted_bytes (s : ByteArray) : ∀ x ∈ J.quoted (numsOf s), x < 256 := by
  intro x hx
  unfold J.quoted J.qbody at hx
  simp only [List.mem_cons, List.mem_append, List.mem_flatMap, List.not_mem_nil, or_false] at hx
  rcases hx with rfl | ⟨c, hc, hx⟩ | rfl
  · decide
  · exact esc_bytes (numsOf_lt s c hc) x hx
  · decide
theorem quoted_len (s : ByteArray) (h : s.size ≤ 16384) : (J.quoted (numsOf s)).length ≤ 98306 := by
  have := qbody_six (numsOf s)
  rw [numsOf_len] at this
  unfold J.quoted
  simp only [List.length_cons, List.length_append, List.length_nil]
  omega
theorem JIn.kept' {w w' : World} {NB : Nat} {A : Array Value} {v : JB} (h : JIn w (fun b => b < NB) A v) (hb : Below NB w w') : JIn w' (fun b => b < NB) A v :=
  h.mono fun _ _ z hc => ⟨(hb.cell z).trans hc, z⟩
inductive ItW (NB g : Nat) (box : Obj) (xs : List Nat) (obj : Bool) (ns : List ByteArray) (vs : List JB) (M : Nat) (w : World) (t : Value) (wr : World) : Prop where
  | intro (k : Nat) (ys : List Nat) (hk : k ≤ vs.length) (ht : t = .int .i64 (k : Int)) (hW : Wr wr NB (xs ++ ys)) (hK : WK NB w wr) (hD : Done xs ys (preT obj (ns.map numsOf) (toJs vs) k)) (hM : (xs ++ ys).length ≤ M) (hy : ∀ c ∈ ys, c < 256)
      (hg : wr.heap[g]? = some box)
theorem toJs_getD (vs : List JB) (i : Nat) (x : JB) (h : vs[i]? = some x) (d : J.JV) : (toJs vs).getD i d = x.toJ := by
  rw [toJs_map, List.getD_eq_getElem?_getD, List.getElem?_map, h]; rfl
set_option maxHeartbeats 4000000 in
set_option maxRecDepth 8000 in
theorem itemsW_walk (k : Nat) (b : Bool) (n : Int) (tx : ByteArray) (ns : List ByteArray) (vs : List JB) (nq iq : Option Addr) (nc ic : Nat) (F : Nat → Array Value) (M NB : Nat) (xs : List Nat) (w : World)
    (hW : Wr w NB xs) (hxl : xs.length ≤ 114801) (hM : 213200 ≤ M) (hM2 : M ≤ 300000) (hvl : vs.length ≤ maxLen) (hs : ∀ s ∈ ns, s.size ≤ 16384) (hln : k = 6 → ns.length = vs.length)
    (hN : SsIn w (fun b => b < NB) nq ns) (hI : VsIn w (fun b => b < NB) iq F vs.length) (hR : ∀ i x, vs[i]? = some x → JIn w (fun b => b < NB) (F i) x)
    (hcall : ∀ i x, vs[i]? = some x → ∀ w' xs', Below NB w w' → Wr w' NB xs' → xs'.length ≤ 114800 → Calls Tryd.prog 33 #[rp NB, .agg (F i)] w' fun e w'' => ValW NB xs' (J.written x.toJ) M w' e w'') :
    Calls Tryd.prog 68 #[rp NB, .agg (jA k b n tx nq ns.length nc iq vs.length ic)] w fun e w' => ValW NB xs (J.itemsT (decide (k = 6)) (ns.map numsOf) (toJs vs)) M w e w' := by
  have b1 := below_new w (.cells (jA k b n tx nq ns.length nc iq vs.length ic) 25)
  have n1 := _root_.Go.heap_alloc_new w (.cells (jA k b n tx nq ns.length nc iq vs.length ic) 25)
  have hNB := hW.lt
  have W1 := wr_below hW b1
  have K1 : WK NB w (w.alloc (.cells (jA k b n tx nq ns.length nc iq vs.length ic) 25)) := WK.of_below b1 (Nat.le_of_lt hNB)
  obtain ⟨⟨c0, c1, c2, c3, c4, c5⟩, f0, f1, f2, f3, f4, f5⟩ := row6_cells n1
  obtain ⟨obj, hobj⟩ : ∃ obj, decide (k = 6) = obj := ⟨_, rfl⟩
  rw [hobj]
  obtain ⟨N, hN2⟩ : ∃ N, vs.length = N := ⟨_, rfl⟩
  obtain ⟨nl, hnl⟩ : ∃ nl, ns.length = nl := ⟨_, rfl⟩
  have HH : Hid (xs.length ≤ 114801 ∧ 213200 ≤ M ∧ M ≤ 300000 ∧ vs.length = N ∧ N ≤ maxLen ∧ (∀ s ∈ ns, s.size ≤ 16384) ∧ (obj = true → ns.length = vs.length) ∧ NB < w.heap.size ∧ ns.length = nl) :=
    ⟨hxl, hM, hM2, hN2, by rw [← hN2]; exact hvl, hs, fun ho => hln (of_decide_eq_true (hobj.trans ho)), hNB, hnl⟩
  have HI : Hid (VsIn w (fun b => b < NB) iq F N ∧ SsIn w (fun b => b < NB) nq ns ∧ (∀ i x, vs[i]? = some x → JIn w (fun b => b < NB) (F i) x)) := ⟨by rw [← hN2]; exact hI, hN, hR⟩
  have HC : Hid (∀ i x, vs[i]? = some x → ∀ w' xs', Below NB w w' → Wr w' NB xs' → xs'.length ≤ 114800 → Calls Tryd.prog 33 #[rp NB, .agg (F i)] w' fun e w'' => ValW NB xs' (J.written x.toJ) M w' e w'') := hcall
  have hkb : ((k : Int) == 6) = obj := by
    cases obj with
    | true => rw [of_decide_eq_true hobj]; rfl
    | false => have := of_decide_eq_false hobj; simpa using fun e : (k : Int) = 6 => this (by omega)
  rw [hN2, hnl] at n1 W1 K1 c0 c1 c2 c3 c4 c5 f0 f1 f2 f3 f4 f5 ⊢
  have hmx : (N : Int) ≤ 9223372036854775807 := by have := HH.out.2.2.2.2.1; unfold maxLen at this; omega
  have HP : Hid (preT obj (ns.map numsOf) (toJs vs) N = J.itemsT obj (ns.map numsOf) (toJs vs)) := by
    have := pre_all obj (ns.map numsOf) (toJs vs)
    rw [toJs_len, hN2] at this
    exact this
  unfold jA at n1 W1 K1 c0 c1 c2 c3 c4 c5 f0 f1 f2 f3 f4 f5
  unfold rp jA
  clear b1 hW hxl hM hM2 hvl hs hln hN hI hR hcall hobj hNB hN2 hnl
  go_enter Tryd.func68, Tryd.ntmps68
  go_wp2
  have HN1 := n1
  clear c0 c1 c2 c3 c4 c5 f0 f1 f2 f3 f4 f5
  go_loopw [9] (fun t wr => ItW NB w.heap.size (.cells #[.int .u8 (k : Int), .bool b, .int .i64 n, .string tx, .slice nq nl nc, .slice iq N ic] 25 (0, 0)) xs obj ns vs M w t wr) (fun t _ => N - (intOf t).toNat)
  case atStart => exact ⟨0, [], Nat.zero_le _, rfl, by rw [List.append_nil]; exact W1, K1, .inl rfl, by rw [List.append_nil]; have := HH.out; omega, by simp, n1⟩
  case round =>
    clear W1 K1 n1 HN1
    obtain ⟨i, ys, hi, rfl, hW, hK, hD, hM, hy, hg⟩ := hrel
    have hi := HH.out.2.2.2.1 ▸ hi
    by_cases hlt : i < N
    · have hiI : (i : Int) < (N : Int) := by omega
      have hi0 : (0 : Int) ≤ (i : Int) := by omega
      have hil : i < vs.length := by rw [HH.out.2.2.2.1]; exact hlt
      obtain ⟨x, hx⟩ : ∃ x, vs[i]? = some x := ⟨_, List.getElem?_eq_getElem hil⟩
      obtain ⟨ib, io, rfl⟩ := HI.out.1.addr (by omega)
      have hcells := HI.out.1.at hlt
      obtain ⟨k', b', n', t', nq', nl', nc', iq', il', ic', hF⟩ := jin_form (HI.out.2.2 i x hx)
      have HCx := HC.out i x hx
      rw [hF] at HCx
      have hcw : ∀ j, j < 6 → wr.cell? ⟨ib, io + i * 6 + j, none⟩ = (jA k' b' n' t' nq' nl' nc' iq' il' ic')[j]? := fun j hj => by
        rw [← hF]; exact (hK.below.cell hcells.1).trans (hcells.2 j hj)
      obtain ⟨z0, z1, z2, z3, z4, z5⟩ := jat_of hcw
      have hwx : (toJs vs).getD i (.mk 0 false 0 [] [] []) = x.toJ := toJs_getD vs i x hx _
      have hpre : preT obj (ns.map numsOf) (toJs vs) (i + 1) = preT obj (ns.map numsOf) (toJs vs) i ++ ((if i = 0 then [] else [44]) ++ ((if obj then J.quoted ((ns.map numsOf).getD i []) ++ [58] else []) ++ J.written x.toJ)) := by
        rw [← hwx]; rfl
      generalize x.toJ = X at HCx hpre
      have BX := below_new wr (.cells #[.int .u8 (k' : Int), .bool b', .int .i64 n', .string t', .slice nq' nl' nc', .slice iq' il' ic'] 25)
      have RX : (wr.alloc (.cells #[.int .u8 (k' : Int), .bool b', .int .i64 n', .string t', .slice nq' nl' nc', .slice iq' il' ic'] 25)).heap[wr.heap.size]? = some (.cells #[.int .u8 (k' : Int), .bool b', .int .i64 n', .string t', .slice nq' nl' nc', .slice iq' il' ic'] 25 (0, 0)) := _root_.Go.heap_alloc_new _ _
      have hNw := hW.lt
      have hWX := wr_below hW BX
      have hKX : WK NB w (wr.alloc (.cells #[.int .u8 (k' : Int), .bool b', .int .i64 n', .string t', .slice nq' nl' nc', .slice iq' il' ic'] 25)) := hK.trans (WK.of_below BX (Nat.le_of_lt hNw))
      have hgX := box_below hg BX
      have HK : Hid (∀ w', WK NB (wr.alloc (.cells #[.int .u8 (k' : Int), .bool b', .int .i64 n', .string t', .slice nq' nl' nc', .slice iq' il' ic'] 25)) w' →
          w'.heap[w.heap.size]? = some (.cells #[.int .u8 (k : Int), .bool b, .int .i64 n, .string tx, .slice nq nl nc, .slice (some ⟨ib, io, none⟩) N ic] 25 (0, 0)) ∧
          w'.heap[wr.heap.size]? = some (.cells #[.int .u8 (k' : Int), .bool b', .int .i64 n', .string t', .slice nq' nl' nc', .slice iq' il' ic'] 25 (0, 0)) ∧ WK NB w w') := fun w' hk =>
        ⟨hk.box hgX (by have := HH.out; omega) (by decide), hk.box RX (by omega) (by decide), hKX.trans hk⟩
      have HE : Hid (Done xs ys (preT obj (ns.map numsOf) (toJs vs) i) ∧ (xs ++ ys).length ≤ M ∧ (∀ c ∈ ys, c < 256) ∧ i < N ∧ WK NB w (wr.alloc (.cells #[.int .u8 (k' : Int), .bool b', .int .i64 n', .string t', .slice nq' nl' nc', .slice iq' il' ic'] 25)) ∧
          preT obj (ns.map numsOf) (toJs vs) (i + 1) = preT obj (ns.map numsOf) (toJs vs) i ++ ((if i = 0 then [] else [44]) ++ ((if obj then J.quoted ((ns.map numsOf).getD i []) ++ [58] else []) ++ J.written X))) := ⟨hD, hM, hy, hlt, hKX, hpre⟩
      have LW := longW_any _ NB (xs ++ ys) hWX
      unfold jA at HCx
      obtain ⟨⟨r0, r1, r2, r3, r4, r5⟩, _, _, _, _, _, _⟩ := row6_cells hgX
      obtain ⟨⟨x0, x1, x2, x3, x4, x5⟩, _, _, _, _, _, _⟩ := row6_cells RX
      by_cases hlong : 16384 < (xs ++ ys).length
      · rw [decide_eq_true hlong] at LW
        have HT : Hid (ValW NB xs (J.itemsT obj (ns.map numsOf) (toJs vs)) M w (.returned (.tuple #[])) (wr.alloc (.cells #[.int .u8 (k' : Int), .bool b', .int .i64 n', .string t', .slice nq' nl' nc', .slice iq' il' ic'] 25))) := by
          refine ⟨ys, rfl, hWX, hKX, .inr ⟨hlong, ?_⟩, hM, hy⟩
          have hp := pre_rest obj (ns.map numsOf) (toJs vs) i (by rw [toJs_len]; omega)
          rw [← hp, ← List.append_assoc, List.length_append]
          rcases hD with rfl | ⟨_, h2⟩ <;> omega
        unfold rp at LW
        clear hlong hcells hF hwx hcw hD hM hy hpre hNw hWX hKX hgX hg hK hW BX RX HCx hx hil
        go_wp2_with (first | (go_at_call 34; refine LW.mono ?_; rintro e w9 ⟨rfl, hw9⟩; rw [hw9]; clear hw9) | fail)
        go_end0
        exact HT.out
      rw [decide_eq_false hlong] at LW
      have hsh : (xs ++ ys).length ≤ 16384 := by omega
      have HG : Hid (∀ (pre zs : List Nat) (w' : World), pre = (if i = 0 then [] else [44]) ++ (if obj then J.quoted ((ns.map numsOf).getD i []) ++ [58] else []) → (∀ c ∈ pre, c < 256) → Wr w' NB (xs ++ ys ++ pre ++ zs) → WK NB (wr.alloc (.cells #[.int .u8 (k' : Int), .bool b', .int .i64 n', .string t', .slice nq' nl' nc', .slice iq' il' ic'] 25)) w' → Done (xs ++ ys ++ pre) zs (J.written X) → (xs ++ ys ++ pre ++ zs).length ≤ M → (∀ c ∈ zs, c < 256) →
          ItW NB w.heap.size (.cells #[.int .u8 (k : Int), .bool b, .int .i64 n, .string tx, .slice nq nl nc, .slice (some ⟨ib, io, none⟩) N ic] 25 (0, 0)) xs obj ns vs M w (.int .i64 ((i + 1 : Nat) : Int)) w') := by
        intro pre zs w' hp hpb h1 h2 h3 h4 h5
        have E := HE.out
        refine ⟨i + 1, ys ++ (pre ++ zs), by omega, rfl, by simpa [List.append_assoc] using h1, E.2.2.2.2.1.trans h2, ?_, by simpa [List.append_assoc] using h4, ?_, (HK.out w' h2).1⟩
        · rw [E.2.2.2.2.2, ← List.append_assoc (if i = 0 then [] else [44]), ← hp]
          refine E.1.app ?_
          refine Done.app (Done.refl _ pre) ?_
          exact h3
        · intro c hc
          simp only [List.mem_append] at hc
          rcases hc with hc | hc | hc
          · exact E.2.2.1 c hc
          · exact hpb c hc
          · exact h5 c hc
      have HS : Hid ((xs ++ ys).length ≤ 16384) := hsh
      have C1 := byteW_any _ NB 44 (xs ++ ys) hWX (by omega)
      have C58 := fun (w' : World) (us : List Nat) (h : Wr w' NB us) (hl : us.length ≤ 1000000) => byteW_any w' NB 58 us h hl
      have QW := fun (w' : World) (s : ByteArray) (hs : s.size ≤ 16384) (us : List Nat) (h : Wr w' NB us) (hl : us.length ≤ 700000) => quoteW_any w' NB s hs us h hl
      have HWX : Hid (Wr (wr.alloc (.cells #[.int .u8 (k' : Int), .bool b', .int .i64 n', .string t', .slice nq' nl' nc', .slice iq' il' ic'] 25)) NB (xs ++ ys)) := hWX
      simp only [show (((44 : Nat) : Int)) = 44 from rfl, show (((58 : Nat) : Int)) = 58 from rfl] at C1 C58
      have HCX : Hid (∀ w' us, WK NB (wr.alloc (.cells #[.int .u8 (k' : Int), .bool b', .int .i64 n', .string t', .slice nq' nl' nc', .slice iq' il' ic'] 25)) w' → Wr w' NB us → us.length ≤ 114800 → Calls Tryd.prog 33 #[rp NB, .agg #[.int .u8 (k' : Int), .bool b', .int .i64 n', .string t', .slice nq' nl' nc', .slice iq' il' ic']] w' fun e w'' => ValW NB us (J.written X) M w' e w'') := fun w' us hk h hl =>
        HCx w' us (hKX.trans hk).below h hl
      unfold rp at LW C1 C58 QW HCX
      clear hcells hF hwx hcw hD hM hy hpre hNw hWX hKX hgX hg hK hW BX RX HCx hx hil hsh hlong
      cases obj with
      | false =>
        by_cases hi00 : i = 0
        · have hneg : ¬ (0 : Int) < (i : Int) := by omega
          have hdn : decide (0 < i) = false := decide_eq_false (by omega)
          have HI0 : Hid (i = 0) := hi00
          clear hi00
          go_wp2_with (first | (go_at_call 33; refine (HCX.out _ _ (WK.refl _ _) HWX.out (by have h9 := HS.out; rw [List.length_append] at h9; simp; omega)).mono ?_; rintro e w4 ⟨zs, rfl, h4, k4, d4, l4, y4⟩) | (go_at_call 34; refine LW.mono ?_; rintro e w9 ⟨rfl, hw9⟩; rw [hw9]; clear hw9) | fail)
          go_roundw
          case rel =>
            have G := HG.out ([]) zs w4 (by simp [HI0.out]) ?_ ?_ (k4) ?_ ?_ y4
            · simpa using G
            · intro c hc; cases hc
            · simpa [List.append_assoc] using h4
            · simpa [List.append_assoc] using d4
            · simpa [List.append_assoc] using l4
          case measure => have E := HE.out; simp [intOf]; omega
        · have hpos : (0 : Int) < (i : Int) := by omega
          have hdn : decide (0 < i) = true := decide_eq_true (by omega)
          have HI0 : Hid (¬ i = 0) := hi00
          clear hi00
          go_wp2_with (first | (go_at_call 33; refine (HCX.out _ _ k1 h1 (by have h9 := HS.out; rw [List.length_append] at h9; simp; omega)).mono ?_; rintro e w4 ⟨zs, rfl, h4, k4, d4, l4, y4⟩) | (go_at_call 67; refine C1.mono ?_; rintro e w1 ⟨rfl, h1, k1⟩; obtain ⟨a3, a5, ak⟩ := HK.out _ k1; obtain ⟨⟨ar0, ar1, ar2, ar3, ar4, ar5⟩, _, _, _, _, _, _⟩ := row6_cells a3; obtain ⟨⟨ax0, ax1, ax2, ax3, ax4, ax5⟩, _, _, _, _, _, _⟩ := row6_cells a5) | (go_at_call 34; refine LW.mono ?_; rintro e w9 ⟨rfl, hw9⟩; rw [hw9]; clear hw9) | fail)
          go_roundw
          case rel =>
            have G := HG.out ([44]) zs w4 (by simp [HI0.out]) ?_ ?_ ((k1).trans k4) ?_ ?_ y4
            · simpa using G
            · intro c hc; simp at hc
              subst hc; decide
            · simpa [List.append_assoc] using h4
            · simpa [List.append_assoc] using d4
            · simpa [List.append_assoc] using l4
          case measure => have E := HE.out; simp [intOf]; omega
      | true =>
        have hsl : i < ns.length := by rw [HH.out.2.2.2.2.2.2.1 rfl, HH.out.2.2.2.1]; exact hlt
        obtain ⟨nb, no, rfl⟩ := HI.out.2.1.addr (by omega)
        have hnm := HI.out.2.1.at hsl
        obtain ⟨_, _, hq9, hzn, _⟩ := HI.out.2.1 (by omega)
        simp only [Option.some.injEq, Addr.mk.injEq, and_true] at hq9
        obtain ⟨rfl, rfl⟩ := hq9
        have hsz : (ns.getD i ByteArray.empty).size ≤ 16384 := HH.out.2.2.2.2.2.1 _ (by rw [List.getD_eq_getElem?_getD, List.getElem?_eq_getElem hsl]; exact List.getElem_mem _)
        have hgq : (ns.map numsOf).getD i [] = numsOf (ns.getD i ByteArray.empty) := by
          rw [List.getD_eq_getElem?_getD, List.getD_eq_getElem?_getD, List.getElem?_map, List.getElem?_eq_getElem hsl]; rfl
        have hinl : (i : Int) < (nl : Int) := by have := HH.out.2.2.2.2.2.2.2.2; omega
        rw [hgq] at HG HE
        generalize ns.getD i ByteArray.empty = s at hnm hsz HG HE
        have HNM : Hid (∀ w', WK NB w w' → w'.cell? ⟨nb, no + i, none⟩ = some (.string s)) := fun w' hk => (hk.below.cell hzn).trans hnm
        have QB := quoted_bytes s
        have QL := quoted_len s hsz
        have QS := fun (w' : World) (us : List Nat) (h : Wr w' NB us) (hl : us.length ≤ 700000) => QW w' s hsz us h hl
        generalize J.quoted (numsOf s) = qs at HG HE QB QL QS
        have HQ : Hid ((∀ c ∈ qs, c < 256) ∧ qs.length ≤ 98306) := ⟨QB, QL⟩
        clear hsl hsz hgq QB QL QW
        by_cases hi00 : i = 0
        · have hneg : ¬ (0 : Int) < (i : Int) := by omega
          have hdn : decide (0 < i) = false := decide_eq_false (by omega)
          have HI0 : Hid (i = 0) := hi00
          clear hi00
          have hnn := HNM.out _ (HK.out _ (WK.refl _ _)).2.2
          go_wp2_with (first | (go_at_call 33; refine (HCX.out _ _ K3 h3 (by have h9 := HS.out; have h8 := HQ.out.2; rw [List.length_append] at h9; simp; omega)).mono ?_; rintro e w4 ⟨zs, rfl, h4, k4, d4, l4, y4⟩) | (go_at_call 67; refine (C58 _ _ h2 (by have h9 := HS.out; have h8 := HQ.out.2; rw [List.length_append] at h9; simp; omega)).mono ?_; rintro e w3 ⟨rfl, h3, k3⟩; have K3 := K2.trans k3; obtain ⟨d3, d5, dk⟩ := HK.out _ K3; obtain ⟨⟨dr0, dr1, dr2, dr3, dr4, dr5⟩, _, _, _, _, _, _⟩ := row6_cells d3; obtain ⟨⟨dx0, dx1, dx2, dx3, dx4, dx5⟩, _, _, _, _, _, _⟩ := row6_cells d5) | (go_at_call 66; refine (QS _ _ HWX.out (by have h9 := HS.out; rw [List.length_append] at h9; simp; omega)).mono ?_; rintro e w2 ⟨rfl, h2, k2⟩; have K2 := k2; obtain ⟨b3, b5, bk⟩ := HK.out _ K2; obtain ⟨⟨br0, br1, br2, br3, br4, br5⟩, _, _, _, _, _, _⟩ := row6_cells b3; obtain ⟨⟨bx0, bx1, bx2, bx3, bx4, bx5⟩, _, _, _, _, _, _⟩ := row6_cells b5) | (go_at_call 34; refine LW.mono ?_; rintro e w9 ⟨rfl, hw9⟩; rw [hw9]; clear hw9) | fail)
          go_roundw
          case rel =>
            have G := HG.out ((qs ++ [58])) zs w4 (by simp [HI0.out]) ?_ ?_ ((K3).trans k4) ?_ ?_ y4
            · simpa using G
            · intro c hc; simp at hc
              rcases hc with hc | rfl
              · exact HQ.out.1 c hc
              · decide
            · simpa [List.append_assoc] using h4
            · simpa [List.append_assoc] using d4
            · simpa [List.append_assoc] using l4
          case measure => have E := HE.out; simp [intOf]; omega
        · have hpos : (0 : Int) < (i : Int) := by omega
          have hdn : decide (0 < i) = true := decide_eq_true (by omega)
          have HI0 : Hid (¬ i = 0) := hi00
          clear hi00
          go_wp2_with (first | (go_at_call 33; refine (HCX.out _ _ K3 h3 (by have h9 := HS.out; have h8 := HQ.out.2; rw [List.length_append] at h9; simp; omega)).mono ?_; rintro e w4 ⟨zs, rfl, h4, k4, d4, l4, y4⟩) | (go_at_call 67; refine (C58 _ _ h2 (by have h9 := HS.out; have h8 := HQ.out.2; rw [List.length_append] at h9; simp; omega)).mono ?_; rintro e w3 ⟨rfl, h3, k3⟩; have K3 := K2.trans k3; obtain ⟨d3, d5, dk⟩ := HK.out _ K3; obtain ⟨⟨dr0, dr1, dr2, dr3, dr4, dr5⟩, _, _, _, _, _, _⟩ := row6_cells d3; obtain ⟨⟨dx0, dx1, dx2, dx3, dx4, dx5⟩, _, _, _, _, _, _⟩ := row6_cells d5) | (go_at_call 66; refine (QS _ _ h1 (by have h9 := HS.out; rw [List.length_append] at h9; simp; omega)).mono ?_; rintro e w2 ⟨rfl, h2, k2⟩; have K2 := WK.trans k1 k2; obtain ⟨b3, b5, bk⟩ := HK.out _ K2; obtain ⟨⟨br0, br1, br2, br3, br4, br5⟩, _, _, _, _, _, _⟩ := row6_cells b3; obtain ⟨⟨bx0, bx1, bx2, bx3, bx4, bx5⟩, _, _, _, _, _, _⟩ := row6_cells b5) | (go_at_call 67; refine C1.mono ?_; rintro e w1 ⟨rfl, h1, k1⟩; obtain ⟨a3, a5, ak⟩ := HK.out _ k1; obtain ⟨⟨ar0, ar1, ar2, ar3, ar4, ar5⟩, _, _, _, _, _, _⟩ := row6_cells a3; obtain ⟨⟨ax0, ax1, ax2, ax3, ax4, ax5⟩, _, _, _, _, _, _⟩ := row6_cells a5; have hnn := HNM.out _ ak) | (go_at_call 34; refine LW.mono ?_; rintro e w9 ⟨rfl, hw9⟩; rw [hw9]; clear hw9) | fail)
          go_roundw
          case rel =>
            have G := HG.out ([44] ++ (qs ++ [58])) zs w4 (by simp [HI0.out]) ?_ ?_ ((K3).trans k4) ?_ ?_ y4
            · simpa using G
            · intro c hc; simp at hc
              rcases hc with rfl | hc | rfl
              · decide
              · exact HQ.out.1 c hc
              · decide
            · simpa [List.append_assoc] using h4
            · simpa [List.append_assoc] using d4
            · simpa [List.append_assoc] using l4
          case measure => have E := HE.out; simp [intOf]; omega
    · have hiN : i = N := by omega
      subst hiN
      have HT : Hid (ValW NB xs (J.itemsT obj (ns.map numsOf) (toJs vs)) M w (.returned (.tuple #[])) wr) := ⟨ys, rfl, hW, hK, by rw [← HP.out]; exact hD, hM, hy⟩
      clear hW hK hD hM hy hg hi hlt
      go_wp2
      go_end0
      exact HT.out
end Go.Proofs.YtblnoekogdpolaaDoor
