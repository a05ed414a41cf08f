/-
  The writer: a value. Written by tools/gen_jww.py.
-/
import Derived.Test.YtcfalgomcdmdhaaGreatDoorJWc
import Derived.Test.YtcfalgomcdmdhaaGreatDoorJRdR
import Derived.Test.YtcfalgomcdmdhaaGreatDoorJCkS
import Derived.Test.YtcfalgomcdmdhaaGreatDoorXShelfS
import Derived.Lib.AppendIntMem
namespace Go.Proofs.YtcfalgomcdmdhaaGreatDoor
open Go.RowKit Go.WideShapes Go.Joins

/-- what was asked was written, or there is too much already -/
def Done (xs ys W : List Nat) : Prop := ys = W ∨ (16384 < (xs ++ ys).length ∧ 16384 < (xs ++ W).length)
theorem Done.refl (xs W : List Nat) : Done xs W W := .inl rfl
theorem Done.app {xs a b W1 W2 : List Nat} (h : Done xs a W1) (k : Done (xs ++ a) b W2) : Done xs (a ++ b) (W1 ++ W2) := by
  rcases h with rfl | ⟨h1, h2⟩
  · rcases k with rfl | ⟨k1, k2⟩
    · exact .inl rfl
    · exact .inr ⟨by rw [← List.append_assoc]; exact k1, by rw [← List.append_assoc]; exact k2⟩
  · refine .inr ⟨?_, ?_⟩
    · rw [← List.append_assoc, List.length_append]; omega
    · rw [← List.append_assoc, List.length_append]; omega
structure ValW (NB : Nat) (xs W : List Nat) (M : Nat) (w : World) (e : Ending) (w' : World) : Prop where
  ex : ∃ ys, e = .returned (.tuple #[]) ∧ Wr w' NB (xs ++ ys) ∧ WK NB w w' ∧ Done xs ys W ∧ (xs ++ ys).length ≤ M ∧ ∀ c ∈ ys, c < 256
/-- what is written of the first items -/
def preT (obj : Bool) (ns : List (List Nat)) (vs : List J.JV) : Nat → List Nat
  | 0 => []
  | i + 1 => preT obj ns vs i ++ ((if i = 0 then [] else [44]) ++ ((if obj then J.quoted (ns.getD i []) ++ [58] else []) ++ J.written (vs.getD i (.mk 0 false 0 [] [] []))))
def restT (obj : Bool) (ns : List (List Nat)) (vs : List J.JV) (i : Nat) : List Nat :=
  if i = 0 then J.itemsT obj ns vs else if vs.length ≤ i then [] else 44 :: J.itemsT obj (ns.drop i) (vs.drop i)
theorem headD_drop (ns : List (List Nat)) (i : Nat) : (ns.drop i).headD [] = ns.getD i [] := by
  rw [List.headD_eq_head?_getD, List.head?_drop, List.getD_eq_getElem?_getD]
theorem rest_succ (obj : Bool) (ns : List (List Nat)) (vs : List J.JV) (i : Nat) : restT obj ns vs (i + 1) = if (vs.drop (i + 1)).isEmpty then [] else 44 :: J.itemsT obj (ns.drop (i + 1)) (vs.drop (i + 1)) := by
  unfold restT
  rw [if_neg (Nat.succ_ne_zero i)]
  by_cases hl : vs.length ≤ i + 1
  · rw [if_pos hl, List.drop_eq_nil_of_le hl]; rfl
  · have : (vs.drop (i + 1)).isEmpty = false := by
      cases h : vs.drop (i + 1) with
      | nil => have := congrArg List.length h; simp at this; omega
      | cons a l => rfl
    rw [if_neg hl, this]; rfl
theorem pre_rest (obj : Bool) (ns : List (List Nat)) (vs : List J.JV) : ∀ i, i ≤ vs.length → preT obj ns vs i ++ restT obj ns vs i = J.itemsT obj ns vs
  | 0, _ => rfl
  | i + 1, h => by
    rw [← pre_rest obj ns vs i (by omega)]
    simp only [preT, List.append_assoc]
    congr 1
    have hd : vs.drop i = vs.getD i (.mk 0 false 0 [] [] []) :: vs.drop (i + 1) := by
      rw [List.drop_eq_getElem_cons (by omega), List.getD_eq_getElem?_getD, List.getElem?_eq_getElem (by omega)]; rfl
    have key : J.itemsT obj (ns.drop i) (vs.drop i) = (if obj then J.quoted (ns.getD i []) ++ [58] else []) ++ (J.written (vs.getD i (.mk 0 false 0 [] [] [])) ++ restT obj ns vs (i + 1)) := by
      rw [hd]
      simp only [J.itemsT, headD_drop]
      rw [rest_succ, List.tail_drop]
    by_cases h0 : i = 0
    · subst h0
      rw [if_pos rfl, List.nil_append]
      have : restT obj ns vs 0 = J.itemsT obj ns vs := rfl
      rw [this]
      simpa using key.symm
    · rw [if_neg h0]
      have : restT obj ns vs i = 44 :: J.itemsT obj (ns.drop i) (vs.drop i) := by unfold restT; rw [if_neg h0, if_neg (by omega)]
      rw [this, key]
      rfl
theorem pre_all (obj : Bool) (ns : List (List Nat)) (vs : List J.JV) : preT obj ns vs vs.length = J.itemsT obj ns vs := by
  have h := pre_rest obj ns vs vs.length (Nat.le_refl _)
  have : restT obj ns vs vs.length = [] := by
    unfold restT
    split
    · rename_i h0
      rw [List.eq_nil_of_length_eq_zero h0]; rfl
    · rw [if_pos (Nat.le_refl _)]
  rw [this, List.append_nil] at h
  exact h
theorem esc_bytes {c : Nat} (hc : c < 256) : ∀ x ∈ J.esc c, x < 256 := by
  intro x hx
  unfold J.esc at hx
  repeat' split at hx
  all_goals simp only [List.mem_cons, List.not_mem_nil, or_false] at hx
  all_goals (try unfold J.hexC at hx)
  all_goals (try split at hx)
  all_goals omega
theorem quoted_bytes (s : ByteArray) : ∀ x ∈ J.quoted (numsOf s), x < 256 := by
  intro x hx
  unfold J.quoted J.qbody at hx
  simp only [List.mem_cons, List.mem_append, List.mem_flatMap, List.not_mem_nil, or_false] at hx
  rcases hx with rfl | ⟨c, hc, hx⟩ | rfl
  · decide
  · exact esc_bytes (numsOf_lt s c hc) x hx
  · decide
theorem quoted_len (s : ByteArray) (h : s.size ≤ 16384) : (J.quoted (numsOf s)).length ≤ 98306 := by
  have := qbody_six (numsOf s)
  rw [numsOf_len] at this
  unfold J.quoted
  simp only [List.length_cons, List.length_append, List.length_nil]
  omega
theorem JIn.kept' {w w' : World} {NB : Nat} {A : Array Value} {v : JB} (h : JIn w (fun b => b < NB) A v) (hb : Below NB w w') : JIn w' (fun b => b < NB) A v :=
  h.mono fun _ _ z hc => ⟨(hb.cell z).trans hc, z⟩
/-- Between the items. -/
inductive ItW (NB g : Nat) (box : Obj) (xs : List Nat) (obj : Bool) (ns : List ByteArray) (vs : List JB) (M : Nat) (w : World) (t : Value) (wr : World) : Prop where
  | intro (k : Nat) (ys : List Nat) (hk : k ≤ vs.length) (ht : t = .int .i64 (k : Int)) (hW : Wr wr NB (xs ++ ys)) (hK : WK NB w wr) (hD : Done xs ys (preT obj (ns.map numsOf) (toJs vs) k)) (hM : (xs ++ ys).length ≤ M) (hy : ∀ c ∈ ys, c < 256)
      (hg : wr.heap[g]? = some box)
theorem toJs_getD (vs : List JB) (i : Nat) (x : JB) (h : vs[i]? = some x) (d : J.JV) : (toJs vs).getD i d = x.toJ := by
  rw [toJs_map, List.getD_eq_getElem?_getD, List.getElem?_map, h]; rfl
set_option maxHeartbeats 4000000 in
set_option maxRecDepth 8000 in
theorem itemsW_walk (k : Nat) (b : Bool) (n : Int) (tx : ByteArray) (ns : List ByteArray) (vs : List JB) (nq iq : Option Addr) (nc ic : Nat) (F : Nat → Array Value) (M NB : Nat) (xs : List Nat) (w : World)
    (hW : Wr w NB xs) (hxl : xs.length ≤ 114801) (hM : 213200 ≤ M) (hM2 : M ≤ 300000) (hvl : vs.length ≤ maxLen) (hs : ∀ s ∈ ns, s.size ≤ 16384) (hln : k = 6 → ns.length = vs.length)
    (hN : SsIn w (fun b => b < NB) nq ns) (hI : VsIn w (fun b => b < NB) iq F vs.length) (hR : ∀ i x, vs[i]? = some x → JIn w (fun b => b < NB) (F i) x)
    (hcall : ∀ i x, vs[i]? = some x → ∀ w' xs', Below NB w w' → Wr w' NB xs' → xs'.length ≤ 114800 → Calls Tryz.prog 21 #[rp NB, .agg (F i)] w' fun e w'' => ValW NB xs' (J.written x.toJ) M w' e w'') :
    Calls Tryz.prog 47 #[rp NB, .agg (jA k b n tx nq ns.length nc iq vs.length ic)] w fun e w' => ValW NB xs (J.itemsT (decide (k = 6)) (ns.map numsOf) (toJs vs)) M w e w' := by
  have b1 := below_new w (.cells (jA k b n tx nq ns.length nc iq vs.length ic) 25)
  have n1 := _root_.Go.heap_alloc_new w (.cells (jA k b n tx nq ns.length nc iq vs.length ic) 25)
  have hNB := hW.lt
  have W1 := wr_below hW b1
  have K1 : WK NB w (w.alloc (.cells (jA k b n tx nq ns.length nc iq vs.length ic) 25)) := WK.of_below b1 (Nat.le_of_lt hNB)
  obtain ⟨⟨c0, c1, c2, c3, c4, c5⟩, f0, f1, f2, f3, f4, f5⟩ := row6_cells n1
  obtain ⟨obj, hobj⟩ : ∃ obj, decide (k = 6) = obj := ⟨_, rfl⟩
  rw [hobj]
  obtain ⟨N, hN2⟩ : ∃ N, vs.length = N := ⟨_, rfl⟩
  obtain ⟨nl, hnl⟩ : ∃ nl, ns.length = nl := ⟨_, rfl⟩
  have HH : Hid (xs.length ≤ 114801 ∧ 213200 ≤ M ∧ M ≤ 300000 ∧ vs.length = N ∧ N ≤ maxLen ∧ (∀ s ∈ ns, s.size ≤ 16384) ∧ (obj = true → ns.length = vs.length) ∧ NB < w.heap.size ∧ ns.length = nl) :=
    ⟨hxl, hM, hM2, hN2, by rw [← hN2]; exact hvl, hs, fun ho => hln (of_decide_eq_true (hobj.trans ho)), hNB, hnl⟩
  have HI : Hid (VsIn w (fun b => b < NB) iq F N ∧ SsIn w (fun b => b < NB) nq ns ∧ (∀ i x, vs[i]? = some x → JIn w (fun b => b < NB) (F i) x)) := ⟨by rw [← hN2]; exact hI, hN, hR⟩
  have HC : Hid (∀ i x, vs[i]? = some x → ∀ w' xs', Below NB w w' → Wr w' NB xs' → xs'.length ≤ 114800 → Calls Tryz.prog 21 #[rp NB, .agg (F i)] w' fun e w'' => ValW NB xs' (J.written x.toJ) M w' e w'') := hcall
  have hkb : ((k : Int) == 6) = obj := by
    cases obj with
    | true => rw [of_decide_eq_true hobj]; rfl
    | false => have := of_decide_eq_false hobj; simpa using fun e : (k : Int) = 6 => this (by omega)
  rw [hN2, hnl] at n1 W1 K1 c0 c1 c2 c3 c4 c5 f0 f1 f2 f3 f4 f5 ⊢
  have hmx : (N : Int) ≤ 9223372036854775807 := by have := HH.out.2.2.2.2.1; unfold maxLen at this; omega
  have HP : Hid (preT obj (ns.map numsOf) (toJs vs) N = J.itemsT obj (ns.map numsOf) (toJs vs)) := by
    have := pre_all obj (ns.map numsOf) (toJs vs)
    rw [toJs_len, hN2] at this
    exact this
  unfold jA at n1 W1 K1 c0 c1 c2 c3 c4 c5 f0 f1 f2 f3 f4 f5
  unfold rp jA
  clear b1 hW hxl hM hM2 hvl hs hln hN hI hR hcall hobj hNB hN2 hnl
  go_enter Tryz.func47, Tryz.ntmps47
  go_wp2
  have HN1 := n1
  clear c0 c1 c2 c3 c4 c5 f0 f1 f2 f3 f4 f5
  go_loopw [9] (fun t wr => ItW NB w.heap.size (.cells #[.int .u8 (k : Int), .bool b, .int .i64 n, .string tx, .slice nq nl nc, .slice iq N ic] 25 (0, 0)) xs obj ns vs M w t wr) (fun t _ => N - (intOf t).toNat)
  case atStart => exact ⟨0, [], Nat.zero_le _, rfl, by rw [List.append_nil]; exact W1, K1, .inl rfl, by rw [List.append_nil]; have := HH.out; omega, by simp, n1⟩
  case round =>
    clear W1 K1 n1 HN1
    obtain ⟨i, ys, hi, rfl, hW, hK, hD, hM, hy, hg⟩ := hrel
    have hi := HH.out.2.2.2.1 ▸ hi
    by_cases hlt : i < N
    · have hiI : (i : Int) < (N : Int) := by omega
      have hi0 : (0 : Int) ≤ (i : Int) := by omega
      have hil : i < vs.length := by rw [HH.out.2.2.2.1]; exact hlt
      obtain ⟨x, hx⟩ : ∃ x, vs[i]? = some x := ⟨_, List.getElem?_eq_getElem hil⟩
      obtain ⟨ib, io, rfl⟩ := HI.out.1.addr (by omega)
      have hcells := HI.out.1.at hlt
      obtain ⟨k', b', n', t', nq', nl', nc', iq', il', ic', hF⟩ := jin_form (HI.out.2.2 i x hx)
      have HCx := HC.out i x hx
      rw [hF] at HCx
      have hcw : ∀ j, j < 6 → wr.cell? ⟨ib, io + i * 6 + j, none⟩ = (jA k' b' n' t' nq' nl' nc' iq' il' ic')[j]? := fun j hj => by
        rw [← hF]; exact (hK.below.cell hcells.1).trans (hcells.2 j hj)
      obtain ⟨z0, z1, z2, z3, z4, z5⟩ := jat_of hcw
      have hwx : (toJs vs).getD i (.mk 0 false 0 [] [] []) = x.toJ := toJs_getD vs i x hx _
      have hpre : preT obj (ns.map numsOf) (toJs vs) (i + 1) = preT obj (ns.map numsOf) (toJs vs) i ++ ((if i = 0 then [] else [44]) ++ ((if obj then J.quoted ((ns.map numsOf).getD i []) ++ [58] else []) ++ J.written x.toJ)) := by
        rw [← hwx]; rfl
      generalize x.toJ = X at HCx hpre
      have BX := below_new wr (.cells #[.int .u8 (k' : Int), .bool b', .int .i64 n', .string t', .slice nq' nl' nc', .slice iq' il' ic'] 25)
      have RX : (wr.alloc (.cells #[.int .u8 (k' : Int), .bool b', .int .i64 n', .string t', .slice nq' nl' nc', .slice iq' il' ic'] 25)).heap[wr.heap.size]? = some (.cells #[.int .u8 (k' : Int), .bool b', .int .i64 n', .string t', .slice nq' nl' nc', .slice iq' il' ic'] 25 (0, 0)) := _root_.Go.heap_alloc_new _ _
      have hNw := hW.lt
      have hWX := wr_below hW BX
      have hKX : WK NB w (wr.alloc (.cells #[.int .u8 (k' : Int), .bool b', .int .i64 n', .string t', .slice nq' nl' nc', .slice iq' il' ic'] 25)) := hK.trans (WK.of_below BX (Nat.le_of_lt hNw))
      have hgX := box_below hg BX
      -- what stays in every world behind
      have HK : Hid (∀ w', WK NB (wr.alloc (.cells #[.int .u8 (k' : Int), .bool b', .int .i64 n', .string t', .slice nq' nl' nc', .slice iq' il' ic'] 25)) w' →
          w'.heap[w.heap.size]? = some (.cells #[.int .u8 (k : Int), .bool b, .int .i64 n, .string tx, .slice nq nl nc, .slice (some ⟨ib, io, none⟩) N ic] 25 (0, 0)) ∧
          w'.heap[wr.heap.size]? = some (.cells #[.int .u8 (k' : Int), .bool b', .int .i64 n', .string t', .slice nq' nl' nc', .slice iq' il' ic'] 25 (0, 0)) ∧ WK NB w w') := fun w' hk =>
        ⟨hk.box hgX (by have := HH.out; omega) (by decide), hk.box RX (by omega) (by decide), hKX.trans hk⟩
      have HE : Hid (Done xs ys (preT obj (ns.map numsOf) (toJs vs) i) ∧ (xs ++ ys).length ≤ M ∧ (∀ c ∈ ys, c < 256) ∧ i < N ∧ WK NB w (wr.alloc (.cells #[.int .u8 (k' : Int), .bool b', .int .i64 n', .string t', .slice nq' nl' nc', .slice iq' il' ic'] 25)) ∧
          preT obj (ns.map numsOf) (toJs vs) (i + 1) = preT obj (ns.map numsOf) (toJs vs) i ++ ((if i = 0 then [] else [44]) ++ ((if obj then J.quoted ((ns.map numsOf).getD i []) ++ [58] else []) ++ J.written X))) := ⟨hD, hM, hy, hlt, hKX, hpre⟩
      have LW := longW_any _ NB (xs ++ ys) hWX
      unfold jA at HCx
      obtain ⟨⟨r0, r1, r2, r3, r4, r5⟩, _, _, _, _, _, _⟩ := row6_cells hgX
      obtain ⟨⟨x0, x1, x2, x3, x4, x5⟩, _, _, _, _, _, _⟩ := row6_cells RX
      by_cases hlong : 16384 < (xs ++ ys).length
      · rw [decide_eq_true hlong] at LW
        have HT : Hid (ValW NB xs (J.itemsT obj (ns.map numsOf) (toJs vs)) M w (.returned (.tuple #[])) (wr.alloc (.cells #[.int .u8 (k' : Int), .bool b', .int .i64 n', .string t', .slice nq' nl' nc', .slice iq' il' ic'] 25))) := by
          refine ⟨ys, rfl, hWX, hKX, .inr ⟨hlong, ?_⟩, hM, hy⟩
          have hp := pre_rest obj (ns.map numsOf) (toJs vs) i (by rw [toJs_len]; omega)
          rw [← hp, ← List.append_assoc, List.length_append]
          rcases hD with rfl | ⟨_, h2⟩ <;> omega
        unfold rp at LW
        clear hlong hcells hF hwx hcw hD hM hy hpre hNw hWX hKX hgX hg hK hW BX RX HCx hx hil
        go_wp2_with (first | (go_at_call 22; refine LW.mono ?_; rintro e w9 ⟨rfl, hw9⟩; rw [hw9]; clear hw9) | fail)
        go_end0
        exact HT.out
      rw [decide_eq_false hlong] at LW
      have hsh : (xs ++ ys).length ≤ 16384 := by omega
      -- one more is written
      have HG : Hid (∀ (pre zs : List Nat) (w' : World), pre = (if i = 0 then [] else [44]) ++ (if obj then J.quoted ((ns.map numsOf).getD i []) ++ [58] else []) → (∀ c ∈ pre, c < 256) → Wr w' NB (xs ++ ys ++ pre ++ zs) → WK NB (wr.alloc (.cells #[.int .u8 (k' : Int), .bool b', .int .i64 n', .string t', .slice nq' nl' nc', .slice iq' il' ic'] 25)) w' → Done (xs ++ ys ++ pre) zs (J.written X) → (xs ++ ys ++ pre ++ zs).length ≤ M → (∀ c ∈ zs, c < 256) →
          ItW NB w.heap.size (.cells #[.int .u8 (k : Int), .bool b, .int .i64 n, .string tx, .slice nq nl nc, .slice (some ⟨ib, io, none⟩) N ic] 25 (0, 0)) xs obj ns vs M w (.int .i64 ((i + 1 : Nat) : Int)) w') := by
        intro pre zs w' hp hpb h1 h2 h3 h4 h5
        have E := HE.out
        refine ⟨i + 1, ys ++ (pre ++ zs), by omega, rfl, by simpa [List.append_assoc] using h1, E.2.2.2.2.1.trans h2, ?_, by simpa [List.append_assoc] using h4, ?_, (HK.out w' h2).1⟩
        · rw [E.2.2.2.2.2, ← List.append_assoc (if i = 0 then [] else [44]), ← hp]
          refine E.1.app ?_
          refine Done.app (Done.refl _ pre) ?_
          exact h3
        · intro c hc
          simp only [List.mem_append] at hc
          rcases hc with hc | hc | hc
          · exact E.2.2.1 c hc
          · exact hpb c hc
          · exact h5 c hc
      have HS : Hid ((xs ++ ys).length ≤ 16384) := hsh
      have C1 := byteW_any _ NB 44 (xs ++ ys) hWX (by omega)
      have C58 := fun (w' : World) (us : List Nat) (h : Wr w' NB us) (hl : us.length ≤ 1000000) => byteW_any w' NB 58 us h hl
      have QW := fun (w' : World) (s : ByteArray) (hs : s.size ≤ 16384) (us : List Nat) (h : Wr w' NB us) (hl : us.length ≤ 700000) => quoteW_any w' NB s hs us h hl
      have HWX : Hid (Wr (wr.alloc (.cells #[.int .u8 (k' : Int), .bool b', .int .i64 n', .string t', .slice nq' nl' nc', .slice iq' il' ic'] 25)) NB (xs ++ ys)) := hWX
      simp only [show (((44 : Nat) : Int)) = 44 from rfl, show (((58 : Nat) : Int)) = 58 from rfl] at C1 C58
      have HCX : Hid (∀ w' us, WK NB (wr.alloc (.cells #[.int .u8 (k' : Int), .bool b', .int .i64 n', .string t', .slice nq' nl' nc', .slice iq' il' ic'] 25)) w' → Wr w' NB us → us.length ≤ 114800 → Calls Tryz.prog 21 #[rp NB, .agg #[.int .u8 (k' : Int), .bool b', .int .i64 n', .string t', .slice nq' nl' nc', .slice iq' il' ic']] w' fun e w'' => ValW NB us (J.written X) M w' e w'') := fun w' us hk h hl =>
        HCx w' us (hKX.trans hk).below h hl
      unfold rp at LW C1 C58 QW HCX
      clear hcells hF hwx hcw hD hM hy hpre hNw hWX hKX hgX hg hK hW BX RX HCx hx hil hsh hlong
      cases obj with
      | false =>
        by_cases hi00 : i = 0
        · have hneg : ¬ (0 : Int) < (i : Int) := by omega
          have hdn : decide (0 < i) = false := decide_eq_false (by omega)
          have HI0 : Hid (i = 0) := hi00
          clear hi00
          go_wp2_with (first | (go_at_call 21; refine (HCX.out _ _ (WK.refl _ _) HWX.out (by have h9 := HS.out; rw [List.length_append] at h9; simp; omega)).mono ?_; rintro e w4 ⟨zs, rfl, h4, k4, d4, l4, y4⟩) | (go_at_call 22; refine LW.mono ?_; rintro e w9 ⟨rfl, hw9⟩; rw [hw9]; clear hw9) | fail)
          go_roundw
          case rel =>
            have G := HG.out ([]) zs w4 (by simp [HI0.out]) ?_ ?_ (k4) ?_ ?_ y4
            · simpa using G
            · intro c hc; cases hc
              
            · simpa [List.append_assoc] using h4
            · simpa [List.append_assoc] using d4
            · simpa [List.append_assoc] using l4
          case measure => have E := HE.out; simp [intOf]; omega
        · have hpos : (0 : Int) < (i : Int) := by omega
          have hdn : decide (0 < i) = true := decide_eq_true (by omega)
          have HI0 : Hid (¬ i = 0) := hi00
          clear hi00
          go_wp2_with (first | (go_at_call 21; refine (HCX.out _ _ k1 h1 (by have h9 := HS.out; rw [List.length_append] at h9; simp; omega)).mono ?_; rintro e w4 ⟨zs, rfl, h4, k4, d4, l4, y4⟩) | (go_at_call 46; refine C1.mono ?_; rintro e w1 ⟨rfl, h1, k1⟩; obtain ⟨a3, a5, ak⟩ := HK.out _ k1; obtain ⟨⟨ar0, ar1, ar2, ar3, ar4, ar5⟩, _, _, _, _, _, _⟩ := row6_cells a3; obtain ⟨⟨ax0, ax1, ax2, ax3, ax4, ax5⟩, _, _, _, _, _, _⟩ := row6_cells a5) | (go_at_call 22; refine LW.mono ?_; rintro e w9 ⟨rfl, hw9⟩; rw [hw9]; clear hw9) | fail)
          go_roundw
          case rel =>
            have G := HG.out ([44]) zs w4 (by simp [HI0.out]) ?_ ?_ ((k1).trans k4) ?_ ?_ y4
            · simpa using G
            · intro c hc; simp at hc
              subst hc; decide
            · simpa [List.append_assoc] using h4
            · simpa [List.append_assoc] using d4
            · simpa [List.append_assoc] using l4
          case measure => have E := HE.out; simp [intOf]; omega
      | true =>
        have hsl : i < ns.length := by rw [HH.out.2.2.2.2.2.2.1 rfl, HH.out.2.2.2.1]; exact hlt
        obtain ⟨nb, no, rfl⟩ := HI.out.2.1.addr (by omega)
        have hnm := HI.out.2.1.at hsl
        obtain ⟨_, _, hq9, hzn, _⟩ := HI.out.2.1 (by omega)
        simp only [Option.some.injEq, Addr.mk.injEq, and_true] at hq9
        obtain ⟨rfl, rfl⟩ := hq9
        have hsz : (ns.getD i ByteArray.empty).size ≤ 16384 := HH.out.2.2.2.2.2.1 _ (by rw [List.getD_eq_getElem?_getD, List.getElem?_eq_getElem hsl]; exact List.getElem_mem _)
        have hgq : (ns.map numsOf).getD i [] = numsOf (ns.getD i ByteArray.empty) := by
          rw [List.getD_eq_getElem?_getD, List.getD_eq_getElem?_getD, List.getElem?_map, List.getElem?_eq_getElem hsl]; rfl
        have hinl : (i : Int) < (nl : Int) := by have := HH.out.2.2.2.2.2.2.2.2; omega
        rw [hgq] at HG HE
        generalize ns.getD i ByteArray.empty = s at hnm hsz HG HE
        have HNM : Hid (∀ w', WK NB w w' → w'.cell? ⟨nb, no + i, none⟩ = some (.string s)) := fun w' hk => (hk.below.cell hzn).trans hnm
        have QB := quoted_bytes s
        have QL := quoted_len s hsz
        have QS := fun (w' : World) (us : List Nat) (h : Wr w' NB us) (hl : us.length ≤ 700000) => QW w' s hsz us h hl
        generalize J.quoted (numsOf s) = qs at HG HE QB QL QS
        have HQ : Hid ((∀ c ∈ qs, c < 256) ∧ qs.length ≤ 98306) := ⟨QB, QL⟩
        clear hsl hsz hgq QB QL QW
        by_cases hi00 : i = 0
        · have hneg : ¬ (0 : Int) < (i : Int) := by omega
          have hdn : decide (0 < i) = false := decide_eq_false (by omega)
          have HI0 : Hid (i = 0) := hi00
          clear hi00
          have hnn := HNM.out _ (HK.out _ (WK.refl _ _)).2.2
          go_wp2_with (first | (go_at_call 21; refine (HCX.out _ _ K3 h3 (by have h9 := HS.out; have h8 := HQ.out.2; rw [List.length_append] at h9; simp; omega)).mono ?_; rintro e w4 ⟨zs, rfl, h4, k4, d4, l4, y4⟩) | (go_at_call 46; refine (C58 _ _ h2 (by have h9 := HS.out; have h8 := HQ.out.2; rw [List.length_append] at h9; simp; omega)).mono ?_; rintro e w3 ⟨rfl, h3, k3⟩; have K3 := K2.trans k3; obtain ⟨d3, d5, dk⟩ := HK.out _ K3; obtain ⟨⟨dr0, dr1, dr2, dr3, dr4, dr5⟩, _, _, _, _, _, _⟩ := row6_cells d3; obtain ⟨⟨dx0, dx1, dx2, dx3, dx4, dx5⟩, _, _, _, _, _, _⟩ := row6_cells d5) | (go_at_call 45; refine (QS _ _ HWX.out (by have h9 := HS.out; rw [List.length_append] at h9; simp; omega)).mono ?_; rintro e w2 ⟨rfl, h2, k2⟩; have K2 := k2; obtain ⟨b3, b5, bk⟩ := HK.out _ K2; obtain ⟨⟨br0, br1, br2, br3, br4, br5⟩, _, _, _, _, _, _⟩ := row6_cells b3; obtain ⟨⟨bx0, bx1, bx2, bx3, bx4, bx5⟩, _, _, _, _, _, _⟩ := row6_cells b5) | (go_at_call 22; refine LW.mono ?_; rintro e w9 ⟨rfl, hw9⟩; rw [hw9]; clear hw9) | fail)
          go_roundw
          case rel =>
            have G := HG.out ((qs ++ [58])) zs w4 (by simp [HI0.out]) ?_ ?_ ((K3).trans k4) ?_ ?_ y4
            · simpa using G
            · intro c hc; simp at hc
              rcases hc with hc | rfl
              · exact HQ.out.1 c hc
              · decide
            · simpa [List.append_assoc] using h4
            · simpa [List.append_assoc] using d4
            · simpa [List.append_assoc] using l4
          case measure => have E := HE.out; simp [intOf]; omega
        · have hpos : (0 : Int) < (i : Int) := by omega
          have hdn : decide (0 < i) = true := decide_eq_true (by omega)
          have HI0 : Hid (¬ i = 0) := hi00
          clear hi00
          go_wp2_with (first | (go_at_call 21; refine (HCX.out _ _ K3 h3 (by have h9 := HS.out; have h8 := HQ.out.2; rw [List.length_append] at h9; simp; omega)).mono ?_; rintro e w4 ⟨zs, rfl, h4, k4, d4, l4, y4⟩) | (go_at_call 46; refine (C58 _ _ h2 (by have h9 := HS.out; have h8 := HQ.out.2; rw [List.length_append] at h9; simp; omega)).mono ?_; rintro e w3 ⟨rfl, h3, k3⟩; have K3 := K2.trans k3; obtain ⟨d3, d5, dk⟩ := HK.out _ K3; obtain ⟨⟨dr0, dr1, dr2, dr3, dr4, dr5⟩, _, _, _, _, _, _⟩ := row6_cells d3; obtain ⟨⟨dx0, dx1, dx2, dx3, dx4, dx5⟩, _, _, _, _, _, _⟩ := row6_cells d5) | (go_at_call 45; refine (QS _ _ h1 (by have h9 := HS.out; rw [List.length_append] at h9; simp; omega)).mono ?_; rintro e w2 ⟨rfl, h2, k2⟩; have K2 := WK.trans k1 k2; obtain ⟨b3, b5, bk⟩ := HK.out _ K2; obtain ⟨⟨br0, br1, br2, br3, br4, br5⟩, _, _, _, _, _, _⟩ := row6_cells b3; obtain ⟨⟨bx0, bx1, bx2, bx3, bx4, bx5⟩, _, _, _, _, _, _⟩ := row6_cells b5) | (go_at_call 46; refine C1.mono ?_; rintro e w1 ⟨rfl, h1, k1⟩; obtain ⟨a3, a5, ak⟩ := HK.out _ k1; obtain ⟨⟨ar0, ar1, ar2, ar3, ar4, ar5⟩, _, _, _, _, _, _⟩ := row6_cells a3; obtain ⟨⟨ax0, ax1, ax2, ax3, ax4, ax5⟩, _, _, _, _, _, _⟩ := row6_cells a5; have hnn := HNM.out _ ak) | (go_at_call 22; refine LW.mono ?_; rintro e w9 ⟨rfl, hw9⟩; rw [hw9]; clear hw9) | fail)
          go_roundw
          case rel =>
            have G := HG.out ([44] ++ (qs ++ [58])) zs w4 (by simp [HI0.out]) ?_ ?_ ((K3).trans k4) ?_ ?_ y4
            · simpa using G
            · intro c hc; simp at hc
              rcases hc with rfl | hc | rfl
              · decide
              · exact HQ.out.1 c hc
              · decide
            · simpa [List.append_assoc] using h4
            · simpa [List.append_assoc] using d4
            · simpa [List.append_assoc] using l4
          case measure => have E := HE.out; simp [intOf]; omega
    · have hiN : i = N := by omega
      subst hiN
      have HT : Hid (ValW NB xs (J.itemsT obj (ns.map numsOf) (toJs vs)) M w (.returned (.tuple #[])) wr) := ⟨ys, rfl, hW, hK, by rw [← HP.out]; exact hD, hM, hy⟩
      clear hW hK hD hM hy hg hi hlt
      go_wp2
      go_end0
      exact HT.out
end Go.Proofs.YtcfalgomcdmdhaaGreatDoor
namespace Go.Proofs.YtcfalgomcdmdhaaGreatDoor
open Go.RowKit Go.WideShapes Go.Joins

/-- a value that can be written -/
inductive Fit : JB → Prop where
  | mk (k : Nat) (b : Bool) (n : Int) (t : ByteArray) (ns : List ByteArray) (vs : List JB) (hk : k ≤ 6) (hn : J.Rng n) (ht : t.size ≤ 16384) (hs : ∀ s ∈ ns, s.size ≤ 16384) (hl : k = 6 → ns.length = vs.length) (hv : ∀ v ∈ vs, Fit v) : Fit (.mk k b n t ns vs)
theorem nums_arr (l : List UInt8) : numsOf ⟨l.toArray⟩ = l.map UInt8.toNat := rfl
theorem dec_nat (n : Nat) : (Lib.decDigits n).map UInt8.toNat = J.natT n := by
  induction n using Nat.strongRecOn with
  | _ n ih =>
    rw [Lib.decDigits]
    unfold J.natT
    split
    · simp; omega
    · rw [List.map_append, ih (n / 10) (by omega)]
      simp; omega
theorem itoa_nums (n : Int) : numsOf ⟨(Lib.itoa n).toArray⟩ = J.intT n := by
  rw [nums_arr]
  unfold Lib.itoa J.intT
  split
  · rw [List.map_cons, dec_nat]; rfl
  · rw [dec_nat, show n.toNat = n.natAbs by omega]
theorem natT_short : ∀ (k n : Nat), n < 10 ^ (k + 1) → (J.natT n).length ≤ k + 1
  | 0, n, h => by
    unfold J.natT
    rw [dif_pos (by omega)]; simp
  | k + 1, n, h => by
    unfold J.natT
    split
    · simp
    · rw [List.length_append]
      have := natT_short k (n / 10) (by rw [Nat.pow_succ] at h; omega)
      simp; omega
theorem intT_short {n : Int} (h : J.Rng n) : (J.intT n).length ≤ 21 := by
  unfold J.Rng at h
  have : (J.natT n.natAbs).length ≤ 20 := natT_short 19 _ (by omega)
  unfold J.intT
  split
  · simp; omega
  · omega
theorem itoa_size {n : Int} (h : J.Rng n) : (⟨(Lib.itoa n).toArray⟩ : ByteArray).size ≤ 21 := by
  rw [← numsOf_len, itoa_nums]; exact intT_short h
theorem bool_nums (b : Bool) : numsOf ⟨(Lib.formatBool b).toArray⟩ = if b then [116, 114, 117, 101] else [102, 97, 108, 115, 101] := by cases b <;> rfl
/-- one string is written, and that is all -/
theorem valW_str {NB : Nat} {xs W : List Nat} {M : Nat} {w w1 w2 : World} {s : ByteArray} (hK : WK NB w w1) (hw : Wr w2 NB (xs ++ numsOf s)) (hk : WK NB w1 w2) (hs : numsOf s = W) (hl : xs.length + s.size ≤ M) : ValW NB xs W M w (.returned (.tuple #[])) w2 :=
  ⟨numsOf s, rfl, hw, hK.trans hk, .inl hs, by rw [List.length_append, numsOf_len]; exact hl, numsOf_lt s⟩
set_option maxHeartbeats 4000000 in
set_option maxRecDepth 8000 in
theorem valueW_walk (m : Nat) (hm : m ≤ 60) (A : Array Value) (v : JB) (hv : Fit v) (w : World) (NB : Nat) (xs : List Nat) (h8 : 8 ≤ NB) (hL : Laid w) (hW : Wr w NB xs) (hxl : xs.length ≤ 114800) (h : JIn w (fun b => b < NB) A v)
    (hcall : ∀ (i : Nat) (x : JB) (F : Array Value), v.items[i]? = some x → ∀ w' xs', Below NB w w' → Wr w' NB xs' → xs'.length ≤ 114800 → JIn w' (fun b => b < NB) F x → Calls Tryz.prog 21 #[rp NB, .agg F] w' fun e w'' => ValW NB xs' (J.written x.toJ) (213200 + m) w' e w'') :
    Calls Tryz.prog 21 #[rp NB, .agg A] w fun e w' => ValW NB xs (J.written v.toJ) (213201 + m) w e w' := by
  cases h with
  | mk k b n t ns vs nq iq nc ic F hk hn hnc hic hnm him hnq hiq hN hI hR =>
  cases hv with
  | mk _ _ _ _ _ _ hk6 _ ht hs hl hv =>
  have b1 := below_new w (.cells (jA k b n t nq ns.length nc iq vs.length ic) 25)
  have n1 := _root_.Go.heap_alloc_new w (.cells (jA k b n t nq ns.length nc iq vs.length ic) 25)
  have hNB := hW.lt
  have W1 := wr_below hW b1
  have K1 : WK NB w (w.alloc (.cells (jA k b n t nq ns.length nc iq vs.length ic) 25)) := WK.of_below b1 (Nat.le_of_lt hNB)
  have L1 := hL.below b1 (by omega)
  obtain ⟨⟨c0, c1, c2, c3, c4, c5⟩, f0, f1, f2, f3, f4, f5⟩ := row6_cells n1
  have HWr : J.written (JB.mk k b n t ns vs).toJ = J.written (.mk k b n (numsOf t) (ns.map numsOf) (toJs vs)) := rfl
  rw [HWr]
  have HH : Hid (xs.length ≤ 114800 ∧ m ≤ 60 ∧ Wr w NB xs ∧ NB < w.heap.size ∧ J.Rng n ∧ t.size ≤ 16384 ∧ Laid (w.alloc (.cells (jA k b n t nq ns.length nc iq vs.length ic) 25)) ∧ (k = 6 → ns.length = vs.length)) := ⟨hxl, hm, hW, hNB, hn, ht, L1, hl⟩
  have HX : Hid (Wr (w.alloc (.cells (jA k b n t nq ns.length nc iq vs.length ic) 25)) NB xs ∧ WK NB w (w.alloc (.cells (jA k b n t nq ns.length nc iq vs.length ic) 25)) ∧ (w.alloc (.cells (jA k b n t nq ns.length nc iq vs.length ic) 25)).heap[w.heap.size]? = some (.cells (jA k b n t nq ns.length nc iq vs.length ic) 25 (0, 0))) := ⟨W1, K1, n1⟩
  -- the items
  have HIT : Hid (∀ w' us, WK NB (w.alloc (.cells (jA k b n t nq ns.length nc iq vs.length ic) 25)) w' → Wr w' NB us → us.length ≤ 114801 → Calls Tryz.prog 47 #[rp NB, .agg (jA k b n t nq ns.length nc iq vs.length ic)] w' fun e w'' => ValW NB us (J.itemsT (decide (k = 6)) (ns.map numsOf) (toJs vs)) (213200 + m) w' e w'') := by
    intro w' us hk' hw' hu
    have hb := (K1.trans hk').below
    have hZ : ∀ a v, a.block < NB → w.cell? a = some v → w'.cell? a = some v ∧ a.block < NB := fun a v z hc => ⟨(hb.cell z).trans hc, z⟩
    refine itemsW_walk k b n t ns vs nq iq nc ic F (213200 + m) NB us w' hw' hu (by omega) (by omega) (Nat.le_trans hic him) hs hl (hN.mono hZ) (hI.mono (fun i hi => (hR i _ (List.getElem?_eq_getElem hi)).size) hZ) (fun i x hx => (hR i x hx).kept' hb) ?_
    intro i x hx w3 xs3 hb3 hw3 hx3
    exact hcall i x (F i) hx w3 xs3 (hb.trans hb3) hw3 hx3 ((hR i x hx).kept' (hb.trans hb3))
  clear b1 n1 hNB W1 K1 L1 hL hW hxl hN hI hR hcall hnc hic hnm him hnq hiq hs hv hl HWr hn ht
  unfold jA at c0 c1 c2 c3 c4 c5 f0 f1 f2 f3 f4 f5 HX HIT HH
  unfold rp jA
  by_cases e0 : k = 0
  · subst e0
    simp only [show (((0 : Nat) : Int)) = 0 from rfl] at HX HIT HH c0 f0 ⊢
    have A := strW_any _ NB ⟨#[110, 117, 108, 108]⟩ xs HX.out.1 (by have := HH.out.1; omega) (by decide)
    unfold rp at A
    clear HIT hk hk6
    go_enter Tryz.func21, Tryz.ntmps21
    go_wp2_with (first | (go_at_call 42; refine A.mono ?_; rintro e w2 ⟨rfl, h2, k2⟩) | fail)
    go_end0
    exact valW_str HX.out.2.1 h2 k2 rfl (by have := HH.out.1; show xs.length + 4 ≤ _; omega)
  by_cases e1 : k = 1
  · subst e1
    simp only [show (((1 : Nat) : Int)) = 1 from rfl] at HX HIT HH c0 f0 ⊢
    have FB := fun w' => Any.strconv_FormatBool lays121 b w'
    have hsz : (⟨(Lib.formatBool b).toArray⟩ : ByteArray).size ≤ 5 := by cases b <;> decide
    have hnm : numsOf ⟨(Lib.formatBool b).toArray⟩ = J.written (.mk 1 b n (numsOf t) (ns.map numsOf) (toJs vs)) := by rw [bool_nums]; rfl
    have A := fun w' (h : Wr w' NB xs) => strW_any w' NB ⟨(Lib.formatBool b).toArray⟩ xs h (by have := HH.out.1; omega) (by omega)
    have HQ : Hid ((⟨(Lib.formatBool b).toArray⟩ : ByteArray).size ≤ 5 ∧ numsOf ⟨(Lib.formatBool b).toArray⟩ = J.written (.mk 1 b n (numsOf t) (ns.map numsOf) (toJs vs))) := ⟨hsz, hnm⟩
    generalize (⟨(Lib.formatBool b).toArray⟩ : ByteArray) = S at FB A HQ
    unfold rp at A
    clear HIT hk hk6 hsz hnm
    go_enter Tryz.func21, Tryz.ntmps21
    go_wp2_with fail
    go_region_with (first | (go_at_call 43; refine (FB _).mono ?_; rintro e w9 ⟨rfl, hw9⟩; rw [hw9]; clear hw9) | (go_at_call 42; refine (A _ (wr_below HX.out.1 (Below.refl _ _).drew)).mono ?_; rintro e w2 ⟨rfl, h2, k2⟩))
    all_goals (go_wp2; go_end0; exact valW_str HX.out.2.1.drew h2 k2 HQ.out.2 (by have := HH.out.1; have := HQ.out.1; omega))
  by_cases e2 : k = 2
  · subst e2
    simp only [show (((2 : Nat) : Int)) = 2 from rfl] at HX HIT HH c0 f0 ⊢
    have hrn := HH.out.2.2.2.2.1
    have FI := fun w' (hl : Laid w') => (Any.strconv_FormatInt_10 lays173 n (by unfold J.Rng at hrn; omega) (by unfold J.Rng at hrn; omega) w' hl.pow).mono (R' := fun e w'' => e = .returned (.string ⟨(Lib.itoa n).toArray⟩) ∧ Below w'.heap.size w' w'') (by
      rintro e w'' ⟨rfl, p, os, rfl⟩
      exact ⟨rfl, Lib.below_grow _ w' (Nat.le_refl _) p os⟩)
    have HQ : Hid ((⟨(Lib.itoa n).toArray⟩ : ByteArray).size ≤ 21 ∧ numsOf ⟨(Lib.itoa n).toArray⟩ = J.written (.mk 2 b n (numsOf t) (ns.map numsOf) (toJs vs))) := ⟨itoa_size hrn, itoa_nums n⟩
    have A := fun w' (h : Wr w' NB xs) => strW_any w' NB ⟨(Lib.itoa n).toArray⟩ xs h (by have := HH.out.1; omega) (by have := HQ.out.1; omega)
    generalize (⟨(Lib.itoa n).toArray⟩ : ByteArray) = S at FI A HQ
    obtain ⟨⟨y0, y1, y2, y3, y4, y5⟩, _, _, _, _, _, _⟩ := row6_cells HX.out.2.2
    unfold rp at A
    clear HIT hk hk6 hrn
    have HLd : Hid (∀ w', Below (w.alloc (.cells #[.int .u8 2, .bool b, .int .i64 n, .string t, .slice nq ns.length nc, .slice iq vs.length ic] 25)).heap.size (w.alloc (.cells #[.int .u8 2, .bool b, .int .i64 n, .string t, .slice nq ns.length nc, .slice iq vs.length ic] 25)) w' → Laid w' ∧ Wr w' NB xs ∧ WK NB w w') := fun w' hb =>
      ⟨HH.out.2.2.2.2.2.2.1.below hb (by have := HH.out.2.2.2.1; simp; omega), wr_below HX.out.1 hb, HX.out.2.1.trans (WK.of_below hb (by have := HH.out.2.2.2.1; simp; omega))⟩
    go_enter Tryz.func21, Tryz.ntmps21
    go_wp2_with fail
    go_region_with (first | (go_at_call 44; refine (FI _ (HLd.out _ (Below.refl _ _).drew).1).mono ?_; rintro e w9 ⟨rfl, B9⟩) | (go_at_call 42; refine (A _ (HLd.out _ (below_more (Below.refl _ _).drew B9)).2.1).mono ?_; rintro e w2 ⟨rfl, h2, k2⟩))
    all_goals (go_wp2; go_end0; exact valW_str (HLd.out _ (below_more (Below.refl _ _).drew B9)).2.2 h2 k2 HQ.out.2 (by have := HH.out.1; have := HQ.out.1; omega))
  by_cases e3 : k = 3
  · subst e3
    simp only [show (((3 : Nat) : Int)) = 3 from rfl] at HX HIT HH c0 f0 ⊢
    have A := fun w' (h : Wr w' NB xs) => strW_any w' NB t xs h (by have := HH.out.1; omega) (by have := HH.out.2.2.2.2.2.1; omega)
    unfold rp at A
    clear HIT hk hk6
    go_enter Tryz.func21, Tryz.ntmps21
    go_wp2_with fail
    go_region_with (go_at_call 42; refine (A _ (wr_below HX.out.1 (Below.refl _ _).drew)).mono ?_; rintro e w2 ⟨rfl, h2, k2⟩)
    all_goals (go_wp2; go_end0; exact valW_str HX.out.2.1.drew h2 k2 rfl (by have := HH.out.1; have := HH.out.2.2.2.2.2.1; omega))
  by_cases e4 : k = 4
  · subst e4
    simp only [show (((4 : Nat) : Int)) = 4 from rfl] at HX HIT HH c0 f0 ⊢
    have A := quoteW_any _ NB t HH.out.2.2.2.2.2.1 xs HX.out.1 (by have := HH.out.1; omega)
    unfold rp at A
    clear HIT hk hk6
    go_enter Tryz.func21, Tryz.ntmps21
    go_wp2_with (first | (go_at_call 45; refine A.mono ?_; rintro e w2 ⟨rfl, h2, k2⟩) | fail)
    go_end0
    exact ⟨_, rfl, h2, HX.out.2.1.trans k2, .inl rfl, by have := HH.out.1; have := quoted_len t HH.out.2.2.2.2.2.1; rw [List.length_append]; omega, quoted_bytes t⟩
  by_cases e5 : k = 5
  · subst e5
    simp only [show (((5 : Nat) : Int)) = 5 from rfl] at HX HIT HH c0 f0 ⊢
    have A := byteW_any _ NB 91 xs HX.out.1 (by have := HH.out.1; omega)
    have IT := fun w' us hk h hl => HIT.out w' us hk h hl
    have CB := fun (w' : World) (us : List Nat) (h : Wr w' NB us) (hl : us.length ≤ 1000000) => byteW_any w' NB 93 us h hl
    rw [show (((91 : Nat) : Int)) = 91 from rfl] at A
    simp only [show (((93 : Nat) : Int)) = 93 from rfl] at CB
    rw [show decide (5 = 6) = false from rfl] at IT
    unfold rp at A IT CB
    have HKx : Hid (∀ w', WK NB (w.alloc (.cells #[.int .u8 5, .bool b, .int .i64 n, .string t, .slice nq ns.length nc, .slice iq vs.length ic] 25)) w' → w'.heap[w.heap.size]? = some (.cells #[.int .u8 5, .bool b, .int .i64 n, .string t, .slice nq ns.length nc, .slice iq vs.length ic] 25 (0, 0))) := fun w' hk => hk.box HX.out.2.2 (by have := HH.out.2.2.2.1; omega) (by decide)
    have hfin : ∀ ys, Done (xs ++ [91]) ys (J.itemsT false (ns.map numsOf) (toJs vs)) → Done xs ([91] ++ (ys ++ [93])) (J.written (.mk 5 b n (numsOf t) (ns.map numsOf) (toJs vs))) := fun ys hd => by
      have : J.written (.mk 5 b n (numsOf t) (ns.map numsOf) (toJs vs)) = [91] ++ (J.itemsT false (ns.map numsOf) (toJs vs) ++ [93]) := rfl
      rw [this]
      refine Done.app (Done.refl _ _) ?_
      exact Done.app hd (Done.refl _ _)
    have HF : Hid _ := hfin
    clear HIT hk hk6 hfin
    go_enter Tryz.func21, Tryz.ntmps21
    go_wp2_with (first | (go_at_call 47; refine (IT _ _ k1 h1 (by rw [List.length_append]; have := HH.out.1; simp; omega)).mono ?_; rintro e w2 ⟨ys, rfl, h2, k2, d2, l2, y2⟩) | (go_at_call 46; refine (CB _ _ h2 (by have := HH.out.2.1; omega)).mono ?_; rintro e w3 ⟨rfl, h3, k3⟩) | (go_at_call 46; refine A.mono ?_; rintro e w1 ⟨rfl, h1, k1⟩; obtain ⟨⟨y0, y1, y2, y3, y4, y5⟩, _, _, _, _, _, _⟩ := row6_cells (HKx.out _ k1)) | fail)
    go_end0
    refine ⟨[91] ++ (ys ++ [93]), rfl, by simpa [List.append_assoc] using h3, (HX.out.2.1.trans k1).trans (k2.trans k3), HF.out ys d2, ?_, ?_⟩
    · have : (xs ++ [91] ++ ys).length ≤ 213200 + m := l2
      simp only [List.length_append, List.length_cons, List.length_nil] at this ⊢
      omega
    · intro c hc
      simp at hc
      rcases hc with rfl | hc | rfl
      · decide
      · exact y2 c hc
      · decide
  by_cases e6 : k = 6
  · subst e6
    simp only [show (((6 : Nat) : Int)) = 6 from rfl] at HX HIT HH c0 f0 ⊢
    have A := byteW_any _ NB 123 xs HX.out.1 (by have := HH.out.1; omega)
    have IT := fun w' us hk h hl => HIT.out w' us hk h hl
    have CB := fun (w' : World) (us : List Nat) (h : Wr w' NB us) (hl : us.length ≤ 1000000) => byteW_any w' NB 125 us h hl
    rw [show (((123 : Nat) : Int)) = 123 from rfl] at A
    simp only [show (((125 : Nat) : Int)) = 125 from rfl] at CB
    rw [show decide (True) = true from rfl] at IT
    unfold rp at A IT CB
    have HKx : Hid (∀ w', WK NB (w.alloc (.cells #[.int .u8 6, .bool b, .int .i64 n, .string t, .slice nq ns.length nc, .slice iq vs.length ic] 25)) w' → w'.heap[w.heap.size]? = some (.cells #[.int .u8 6, .bool b, .int .i64 n, .string t, .slice nq ns.length nc, .slice iq vs.length ic] 25 (0, 0))) := fun w' hk => hk.box HX.out.2.2 (by have := HH.out.2.2.2.1; omega) (by decide)
    have hfin : ∀ ys, Done (xs ++ [123]) ys (J.itemsT true (ns.map numsOf) (toJs vs)) → Done xs ([123] ++ (ys ++ [125])) (J.written (.mk 6 b n (numsOf t) (ns.map numsOf) (toJs vs))) := fun ys hd => by
      have : J.written (.mk 6 b n (numsOf t) (ns.map numsOf) (toJs vs)) = [123] ++ (J.itemsT true (ns.map numsOf) (toJs vs) ++ [125]) := rfl
      rw [this]
      refine Done.app (Done.refl _ _) ?_
      exact Done.app hd (Done.refl _ _)
    have HF : Hid _ := hfin
    clear HIT hk hk6 hfin
    go_enter Tryz.func21, Tryz.ntmps21
    go_wp2_with (first | (go_at_call 47; refine (IT _ _ k1 h1 (by rw [List.length_append]; have := HH.out.1; simp; omega)).mono ?_; rintro e w2 ⟨ys, rfl, h2, k2, d2, l2, y2⟩) | (go_at_call 46; refine (CB _ _ h2 (by have := HH.out.2.1; omega)).mono ?_; rintro e w3 ⟨rfl, h3, k3⟩) | (go_at_call 46; refine A.mono ?_; rintro e w1 ⟨rfl, h1, k1⟩; obtain ⟨⟨y0, y1, y2, y3, y4, y5⟩, _, _, _, _, _, _⟩ := row6_cells (HKx.out _ k1)) | fail)
    go_end0
    refine ⟨[123] ++ (ys ++ [125]), rfl, by simpa [List.append_assoc] using h3, (HX.out.2.1.trans k1).trans (k2.trans k3), HF.out ys d2, ?_, ?_⟩
    · have : (xs ++ [123] ++ ys).length ≤ 213200 + m := l2
      simp only [List.length_append, List.length_cons, List.length_nil] at this ⊢
      omega
    · intro c hc
      simp at hc
      rcases hc with rfl | hc | rfl
      · decide
      · exact y2 c hc
      · decide
  omega
/-- a value is written -/
theorem valueW_any : ∀ (m : Nat), m ≤ 60 → ∀ (v : JB), v.ht ≤ m + 1 → ∀ (A : Array Value) (w : World) (NB : Nat) (xs : List Nat), 8 ≤ NB → Laid w → Fit v → Wr w NB xs → xs.length ≤ 114800 → JIn w (fun b => b < NB) A v →
    Calls Tryz.prog 21 #[rp NB, .agg A] w fun e w' => ValW NB xs (J.written v.toJ) (213201 + m) w e w' := by
  intro m
  induction m with
  | zero =>
    intro hm v hv A w NB xs h8 hL hf hW hl hJ
    refine valueW_walk 0 (by omega) A v hf w NB xs h8 hL hW hl hJ ?_
    intro i x F hx
    cases v with
    | mk k b n t ns vs =>
      have := ht_at (show vs[i]? = some x from hx)
      simp only [JB.ht] at hv
      cases x with
      | mk => simp only [JB.ht] at this; omega
  | succ m ih =>
    intro hm v hv A w NB xs h8 hL hf hW hl hJ
    refine valueW_walk (m + 1) hm A v hf w NB xs h8 hL hW hl hJ ?_
    intro i x F hx w' xs' hb hW' hl' hJ'
    cases v with
    | mk k b n t ns vs =>
      cases hf with
      | mk _ _ _ _ _ _ _ _ _ _ _ hfv =>
        have hx' : vs[i]? = some x := hx
        have := ht_at hx'
        simp only [JB.ht] at hv
        have R := ih (by omega) x (by omega) F w' NB xs' h8 (hL.below hb h8) (hfv x (List.mem_of_getElem? hx')) hW' hl' hJ'
        rw [show 213200 + (m + 1) = 213201 + m by omega]
        exact R
end Go.Proofs.YtcfalgomcdmdhaaGreatDoor
