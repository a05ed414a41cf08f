/-
  Next: the program's.
-/
import Derived.Test.YtoagaddciapmkaaDoorJ20
import Derived.Laws.AppendOwnNone
import Derived.Lib.SliceRun
namespace Go.Proofs.YtoagaddciapmkaaDoor
open Go.RowKit Go.WideShapes

def cellsR (l : List RecV) : List Value := l.flatMap recC
theorem cellsR_len (l : List RecV) : (cellsR l).length = l.length * 6 := by
  induction l with
  | nil => rfl
  | cons p l ih => simp only [cellsR, recC, List.flatMap_cons, List.length_append, List.length_cons, List.length_nil] at *; omega
theorem cellsR_app (l m : List RecV) : cellsR (l ++ m) = cellsR l ++ cellsR m := by simp [cellsR]
theorem cellsR_at : ∀ (l : List RecV) (i k : Nat), i < l.length → k < 6 → (cellsR l)[i * 6 + k]? = (recC (l.getD i zeroR))[k]?
  | p :: l, 0, k, _, hk => by
    simp only [cellsR, List.flatMap_cons, Nat.zero_mul, Nat.zero_add, List.getD_cons_zero]
    rw [List.getElem?_append_left (by simpa [recC] using hk)]
  | p :: l, i + 1, k, hi, hk => by
    have := cellsR_at l i k (by simpa using hi) hk
    rw [show (i + 1) * 6 + k = (recC p).length + (i * 6 + k) from by simp only [recC, List.length_cons, List.length_nil]; omega]
    simp only [cellsR, List.flatMap_cons, List.getD_cons_succ] at this ⊢
    rw [List.getElem?_append_right (by omega), Nat.add_sub_cancel_left]
    exact this
  | [], _, _, h, _ => by simp at h
theorem cellsR_one (l : List RecV) : ∀ u ∈ cellsR l, u.oneCell' = true := by
  intro u hu
  simp only [cellsR, recC, List.mem_flatMap, List.mem_cons, List.not_mem_nil, or_false] at hu
  obtain ⟨p, _, h⟩ := hu
  rcases h with rfl | rfl | rfl | rfl | rfl | rfl <;> rfl
theorem recC_at {w : World} {b o : Nat} {r : RecV} (h : ∀ k, k < 6 → w.cell? ⟨b, o + k, none⟩ = (recC r)[k]?) : RecAt w b o r :=
  ⟨h 0 (by omega), h 1 (by omega), h 2 (by omega), h 3 (by omega), h 4 (by omega), h 5 (by omega)⟩
theorem at_recC {w : World} {b o : Nat} {r : RecV} (h : RecAt w b o r) : ∀ k, k < 6 → w.cell? ⟨b, o + k, none⟩ = (recC r)[k]?
  | 0, _ => h.c0
  | 1, _ => h.c1
  | 2, _ => h.c2
  | 3, _ => h.c3
  | 4, _ => h.c4
  | 5, _ => h.c5
  | k + 6, hk => by omega
def ROwn (w : World) (base : Nat) (v : Value) (l : List RecV) : Prop := w.ownsRow base 41 6 v l.length (cellsR l)
theorem rown_nil (w : World) (base : Nat) : ROwn w base (.slice none 0 0) [] := World.ownsRow_nil _ _ _ _
theorem own_form {w : World} {base n : Nat} {e : TypeId} {s : Nat} {v : Value} {xs : List Value} (h : w.ownsRow base e s v n xs) : ∃ q m, v = .slice q n m ∧ n ≤ m ∧ m ≤ maxLen ∧ (q = none → m = 0) := by
  rcases h.2 with ⟨hv, hn⟩ | ⟨g, cap, cur, hv, _, _, h1, h2, _⟩
  · exact ⟨none, 0, by rw [hv, hn], by omega, by unfold maxLen; omega, fun _ => rfl⟩
  · exact ⟨_, cap, hv, h1, h2, fun h => by cases h⟩
theorem ROwn.form {w : World} {base : Nat} {v : Value} {l : List RecV} (h : ROwn w base v l) : ∃ q m, v = .slice q l.length m ∧ l.length ≤ m ∧ m ≤ maxLen ∧ (q = none → m = 0) := own_form h
theorem ROwn.recs {w : World} {base : Nat} {q : Option Addr} {n m : Nat} {l : List RecV} (h : ROwn w base (.slice q n m) l) : RsL w q n l := by
  refine ⟨?_, fun hp => ?_⟩
  · obtain ⟨q', m', e, _⟩ := h.form
    simp only [Value.slice.injEq] at e
    exact e.2.1
  rcases h.2 with ⟨_, hn⟩ | ⟨g, cap, cur, hv, hb, hg, hle, hmax, hsz, htk⟩
  · omega
  · simp only [Value.slice.injEq] at hv
    obtain ⟨rfl, rfl, rfl⟩ := hv
    refine ⟨g, 0, rfl, fun i hi => recC_at fun k hk => ?_⟩
    rw [Nat.zero_add, World.ownsRow.cellAt h _ (by omega), cellsR_at l i k hi hk]
theorem ROwn.below {w w' : World} {base : Nat} {v : Value} {l : List RecV} (h : ROwn w base v l) (hb : Below w.heap.size w w') : ROwn w' base v l := own_below h hb
theorem info_rec : (Tryd.prog.info? 41).map (fun i => (i.zero, i.size, i.bytes)) = some (some (.agg (recA zeroR)), 6, 72) := by kernel_rfl
theorem info_parts' {P : Program} {t : TypeId} {z : Option Value} {s b : Nat} (h : (P.info? t).map (fun i => (i.zero, i.size, i.bytes)) = some (z, s, b)) : ∃ i, P.info? t = some i ∧ i.zero = z ∧ i.size = s ∧ i.bytes = b := by
  cases hi : P.info? t with
  | none => rw [hi] at h; cases h
  | some i => rw [hi] at h; simp at h; exact ⟨i, rfl, h.1, h.2.1, h.2.2⟩
theorem recs_cells {w : World} {b o : Nat} {l : List RecV} (h : RsIn w (some ⟨b, o, none⟩) l) : ∀ j u, (cellsR l)[j]? = some u → w.cell? ((⟨b, o, none⟩ : Addr).add j) = some u := by
  intro j u hj
  have hlt : j < l.length * 6 := by rw [← cellsR_len]; exact (List.getElem?_eq_some_iff.1 hj).1
  have hi : j / 6 < l.length := by omega
  have c := cellsR_at l (j / 6) (j % 6) hi (Nat.mod_lt _ (by decide))
  have d := at_recC (h.at hi) (j % 6) (Nat.mod_lt _ (by decide))
  rw [show j / 6 * 6 + j % 6 = j by omega, hj] at c
  rw [add_plain]
  rw [show o + j / 6 * 6 + j % 6 = o + j by omega, ← c] at d
  exact d
theorem run_append_recs (w : World) (base : Nat) (ty : TypeId) (v : Value) (l l' : List RecV) (p : Option Addr) (c : Nat) (hown : ROwn w base v l) (hin : RsIn w p l') (hp : p = none → c = 0) (hlen : l.length + l'.length ≤ 1000000) (hbase : base ≤ w.heap.size) :
    ∃ v' w', (Builtin.append_ #[36, 36] ty #[v, .slice p l'.length c]).run Tryd.prog w = .ok v' w' ∧ ROwn w' base v' (l ++ l') ∧ w.grownBy w' v.ownBlock := by
  obtain ⟨i0, hi, hz0, hz1, hz2⟩ := info_parts' info_rec
  have hmax : l.length + l'.length ≤ maxLen := by unfold maxLen; omega
  cases p with
  | none =>
    obtain rfl : l' = [] := by
      cases l' with
      | nil => rfl
      | cons y l => obtain ⟨b, o, e, _⟩ := hin (by simp); cases e
    obtain rfl := hp rfl
    exact ⟨_, w, run_append_owned_none (P := Tryd.prog) w base 36 ty 41 i0 6 Tryd.underlying36 hi v l.length (cellsR l) hown, by simpa using hown, ⟨rfl, rfl, rfl, Nat.le_refl _, fun _ _ _ => rfl⟩⟩
  | some ad =>
    have hc : ∀ j u, (cellsR l')[j]? = some u → w.cell? (ad.add j) = some u := by
      intro j u hu
      have hpos : 0 < l'.length := by
        cases l' with
        | nil => simp [cellsR] at hu
        | cons y l => simp
      obtain ⟨b, o, e, _⟩ := hin hpos
      simp at e
      subst e
      exact recs_cells hin j u hu
    obtain ⟨v', w', h1, h2, h3, _⟩ := run_append_own (P := Tryd.prog) w base 36 ty 41 i0 (.agg (recA zeroR)) 6 72 Tryd.underlying36 hi hz0 hz1 hz2 rfl (by decide) v l.length (cellsR l) hown ad l'.length c (cellsR l') (cellsR_len l') hc (cellsR_one l') hmax (by omega) hbase
    refine ⟨v', w', h1, ?_, h3⟩
    unfold ROwn
    rw [cellsR_app, List.length_append]
    exact h2
theorem wpList_append_recs (w : World) {ops : Array Oper} {rest : List Oper} {o : Oper} {a : Act} {Q : Exit → Act → World → Prop} (hgd : o.guard = none) (s x : Operand)
    (ho : o.op = .call { callee := .builtin .append, args := #[s, x], argTypes := #[36, 36] }) (base : Nat) (v : Value) (l l' : List RecV) (p : Option Addr) (m c : Nat) (hs : a.eval s = v) (hx : a.eval x = .slice p m c) (hm : m = l'.length)
    (hown : ROwn w base v l) (hin : RsIn w p l') (hp : p = none → c = 0) (hlen : l.length + l'.length ≤ 1000000) (hbase : base ≤ w.heap.size)
    (h : ∀ v' w', ROwn w' base v' (l ++ l') → w.grownBy w' v.ownBlock → wpList Tryd.prog ops Q rest (a.put o.dst v') w') : wpList Tryd.prog ops Q (o :: rest) a w := by
  subst hm
  refine wpList_plain hgd fun K hK => ?_
  obtain ⟨v', w', hr, h2, h3⟩ := run_append_recs w base o.type v l l' p c hown hin hp hlen hbase
  unfold Oper.wp execOp
  simp only [ho, resolve, invoke, builtin, Sem.run_bind, Sem.run_pure, Result.andThen_ok, List.map_toArray, List.map_cons, List.map_nil, hs, hx, hr]
  exact hK _ _ (h v' w' h2 h3)
/-- A row of records under way, or an answer. -/
structure OnR (w : World) (v : Value) (l : List RecV) (wr : World) : Prop where
  own : ROwn wr w.heap.size v l
  bel : Below w.heap.size w wr
theorem OnR.nil (w : World) : OnR w (.slice none 0 0) [] w := ⟨rown_nil _ _, Below.refl _ _⟩
theorem OnR.call {w wr w' : World} {v : Value} {l : List RecV} (h : OnR w v l wr) (hb : Below wr.heap.size wr w') : OnR w v l w' := ⟨h.own.below hb, below_more h.bel hb⟩
theorem OnR.two {w wr w' : World} {v v' : Value} {l l' : List RecV} (h : OnR w v l wr) (ho : ROwn w' w.heap.size v' (l ++ l')) (hg : wr.grownBy w' v.ownBlock) : OnR w v' (l ++ l') w' :=
  ⟨ho, h.bel.grown hg h.bel.size (fun k hk => (World.ownsRow.lt h.own k hk).1)⟩
theorem rec_one (w : World) (r : RecV) (t : TypeId) : RsIn (w.alloc (.cells (recA r) t)) (some ⟨w.heap.size, 0, none⟩) [r] := fun _ =>
  ⟨w.heap.size, 0, rfl, fun i hi => by
    obtain rfl : i = 0 := by simpa using hi
    exact rec_new (_root_.Go.heap_alloc_new _ _)⟩
theorem RsIn.take {w : World} {q : Option Addr} {l : List RecV} (h : RsIn w q l) (k : Nat) : RsIn w q (l.take k) := by
  intro hp
  rw [List.length_take] at hp
  obtain ⟨b, o, e, hc⟩ := h (by omega)
  refine ⟨b, o, e, fun i hi => ?_⟩
  rw [List.length_take] at hi
  have hg : (l.take k).getD i zeroR = l.getD i zeroR := by rw [List.getD_eq_getElem?_getD, List.getElem?_take_of_lt (by omega), List.getD_eq_getElem?_getD]
  rw [hg]
  exact hc i (by omega)
theorem RsIn.drop {w : World} {b o : Nat} {l : List RecV} (h : RsIn w (some ⟨b, o, none⟩) l) (k : Nat) : RsIn w (some ⟨b, o + k * 6, none⟩) (l.drop k) := by
  intro hp
  rw [List.length_drop] at hp
  refine ⟨b, o + k * 6, rfl, fun i hi => ?_⟩
  rw [List.length_drop] at hi
  have := h.at (k := k + i) (by omega)
  rw [show o + k * 6 + i * 6 = o + (k + i) * 6 by omega]
  have hg : (l.drop k).getD i zeroR = l.getD (k + i) zeroR := by simp [List.getD, List.getElem?_drop]
  rw [hg]
  exact this

theorem eql_nilR (w : World) (a : Option Addr) (n c n' c' : Nat) : (binOp .eql 36 (.slice a n c) (.slice none n' c')).run Tryd.prog w = .ok (.bool a.isNone) w := Lib.run_eql_slice_nil w _ _ a n c n' c' Tryd.underlying36
set_option maxHeartbeats 1000000 in
set_option maxRecDepth 8000 in
theorem clone_any (q : Option Addr) (n c : Nat) (l : List RecV) (w : World) (h : RsL w q n l) (hq : q = none → c = 0) (hnb : n ≤ 5000) :
    Calls Tryd.prog 57 #[.slice q n c] w fun e w' => ∃ v, e = .returned v ∧ OnR w v l w' := by
  have HNB : Hid (n ≤ 5000) := hnb
  have H : Hid (RsL w q n l) := h
  have HQ : Hid (q = none → c = 0) := hq
  have q22 := eql_nilR
  clear hnb h hq
  go_enter Tryd.func57, Tryd.ntmps57
  cases q with
  | none =>
    have HL : Hid (l = []) := by
      show l = []
      cases l with
      | nil => rfl
      | cons y l => obtain ⟨b, o, e, _⟩ := H.out.lies (by simp); cases e
    go_wp2
    go_ret
    refine ⟨_, rfl, ?_⟩
    rw [HL.out]
    exact OnR.nil w
  | some ad =>
    have HO : Hid (ROwn (w.alloc (.cells #[] 41)) w.heap.size (.slice (some ⟨w.heap.size, 0, none⟩) 0 0) []) := World.ownsRow_made w #[] 0 (Nat.le_refl _) (Nat.zero_le _) (by simp)
    have HB : Hid (Below w.heap.size w (w.alloc (.cells #[] 41))) := (Below.refl _ _).alloc (Nat.le_refl _) _
    go_wp2_with (at_builtin; refine wpList_append_recs _ rfl _ _ rfl w.heap.size _ [] l (some ad) n c rfl rfl H.out.n HO.out (H.out.lies.below HB.out) (fun h => by cases h) (by have := HNB.out; have := H.out.n; simp only [List.length_nil]; omega) HB.out.size ?_)
    intro v' w' ho hg
    have R : OnR w v' ([] ++ l) w' := OnR.two ⟨HO.out, HB.out⟩ ho hg
    clear ho hg
    go_wp2
    go_ret
    exact ⟨_, rfl, R⟩
theorem own_mono {w : World} {base base' : Nat} {v : Value} {l : List RecV} (h : ROwn w base v l) (hb : base' ≤ base) : ROwn w base' v l := by
  refine ⟨h.1, ?_⟩
  rcases h.2 with h' | ⟨g, cap, cur, h1, h2, h3⟩
  · exact .inl h'
  · exact .inr ⟨g, cap, cur, h1, Nat.le_trans hb h2, h3⟩
def rangeE (l : List RecV) (f c : Int) : Nat := if refE l ≠ 0 then refE l else if f < 0 ∨ c < 0 then 2 else 0
def rangeL (l : List RecV) (f c : Int) : List RecV := if rangeE l f c = 0 then (l.drop f.toNat).take c.toNat else []
theorem rangeL_len (l : List RecV) (f c : Int) (h : l.length ≤ 5000 ∨ refE l ≠ 0) : (rangeL l f c).length ≤ 5000 := by
  unfold rangeL
  split
  · rename_i h0
    rw [List.length_take, List.length_drop]
    rcases h with h | h
    · omega
    · unfold rangeE at h0
      rw [if_pos h] at h0
      exact absurd h0 h
  · simp
set_option maxHeartbeats 2000000 in
set_option maxRecDepth 8000 in
theorem Range_any (q : Option Addr) (n c : Nat) (l : List RecV) (f k : Int) (w : World) (h : RsL w q n l) (hq : q = none → c = 0) (hc : n ≤ c) (hcb : (c : Int) ≤ 9223372036854775807) (hk : k ≤ 9223372036854775807) (hf : f ≤ 9223372036854775807) (E : Nat) (hE : rangeE l f k = E) :
    Calls Tryd.prog 28 #[.slice q n c, .int .i64 f, .int .i64 k] w fun e w' => ∃ v, e = .returned (.tuple #[v, .int .i64 (E : Int)]) ∧ OnR w v (rangeL l f k) w' := by
  have RF := refused_any q n c l w h.lies h.n (by omega)
  go_enter Tryd.func28, Tryd.ntmps28
  by_cases h0 : refE l = 0
  · rw [h0] at RF
    have ho := ref_ok h0
    have hn5 : n ≤ 4096 := by have := h.n; have := ho.1; omega
    by_cases hneg : f < 0 ∨ k < 0
    · have HE : Hid (E = 2) := by show E = 2; rw [← hE]; unfold rangeE; rw [if_neg (by omega), if_pos hneg]
      have HL : Hid (rangeL l f k = []) := by show _ = _; unfold rangeL; rw [hE, HE.out]; rfl
      clear hE ho hn5
      go_wp2_with fail
      refine RF.mono ?_
      rintro e w1 ⟨rfl, hb1⟩
      simp only []
      by_cases hf0 : f < 0
      · go_wp2
        go_ret2
        refine ⟨_, ?_, by rw [HL.out]; exact ⟨rown_nil _ _, hb1⟩⟩
        rw [HE.out]; rfl
      · have hk0 : k < 0 := by omega
        go_wp2
        go_ret2
        refine ⟨_, ?_, by rw [HL.out]; exact ⟨rown_nil _ _, hb1⟩⟩
        rw [HE.out]; rfl
    have HE : Hid (E = 0) := by show E = 0; rw [← hE]; unfold rangeE; rw [if_neg (by omega), if_neg hneg]
    have HL : Hid (rangeL l f k = (l.drop f.toNat).take k.toNat) := by show _ = _; unfold rangeL; rw [hE, HE.out]; rfl
    have hf0 : ¬ f < 0 := by omega
    have hk0 : ¬ k < 0 := by omega
    obtain ⟨F, rfl⟩ : ∃ F : Nat, f = (F : Int) := ⟨f.toNat, by omega⟩
    obtain ⟨K, rfl⟩ : ∃ F : Nat, k = (F : Int) := ⟨k.toNat, by omega⟩
    rw [Int.toNat_natCast, Int.toNat_natCast] at HL
    obtain ⟨G, hG⟩ : ∃ G, min F n = G := ⟨_, rfl⟩
    have m1 : min (F : Int) (n : Int) = (G : Int) := by omega
    obtain ⟨M, hM⟩ : ∃ M, n - G = M := ⟨_, rfl⟩
    obtain ⟨P, hP⟩ : ∃ P, min K M = P := ⟨_, rfl⟩
    have m2 : min (K : Int) (M : Int) = (P : Int) := by omega
    have HR : Hid ((l.drop F).take K = (l.drop G).take P) := by
      show _ = _
      have hnl := h.n
      apply List.ext_getElem?
      intro i
      rw [List.getElem?_take, List.getElem?_take, List.getElem?_drop, List.getElem?_drop]
      by_cases hF : F < n
      · obtain rfl : G = F := by omega
        by_cases hi : i < P
        · rw [if_pos hi, if_pos (by omega)]
        · rw [if_neg hi]
          split
          · rw [List.getElem?_eq_none (by omega)]
          · rfl
      · obtain rfl : G = n := by omega
        rw [List.getElem?_eq_none (by omega), List.getElem?_eq_none (by omega)]
        split <;> split <;> rfl
    have HLS : Hid (((l.drop G).take P).length = P) := by show _ = _; rw [List.length_take, List.length_drop]; have := h.n; omega
    have hGc : (G : Int) ≤ (c : Int) := by omega
    have hGn : (G : Int) ≤ (n : Int) := by omega
    have hGc' : G ≤ c := by omega
    by_cases hcG : c = G
    · have hP0 : P = 0 := by omega
      have CL := fun w' (_ : Below w.heap.size w w') => clone_any q P 0 ((l.drop G).take P) w' ⟨HLS.out.symm, fun hp => by have := HLS.out; omega⟩ (fun _ => rfl) (by omega)
      have hPc : (P : Int) ≤ ((c - G : Nat) : Int) := by omega
      have hM0 : M = 0 := by omega
      have hn0 : n = G := by omega
      subst hcG
      subst hn0
      subst hP0
      have m3 : min (K : Int) 0 = 0 := by omega
      clear hE ho hn5 hneg h0 h hc hcb hG hP hM hGc hGn hM0
      go_wp2_with fail
      refine RF.mono ?_
      rintro e w1 ⟨rfl, hb1⟩
      have C1 := CL w1 hb1
      clear CL RF
      simp only []
      go_wp2_with fail
      refine C1.mono ?_
      rintro e w2 ⟨v2, rfl, on2⟩
      simp only []
      go_wp2
      go_ret2
      refine ⟨v2, by rw [HE.out]; rfl, ?_⟩
      rw [HL.out, HR.out]
      exact ⟨own_mono on2.own hb1.size, below_more hb1 on2.bel⟩
    · have hq0 : ¬ q = none := fun e => by have := hq e; omega
      obtain ⟨ad, rfl⟩ : ∃ ad, q = some ad := by cases q with
        | none => exact absurd rfl hq0
        | some ad => exact ⟨ad, rfl⟩
      have RD : RsIn w (some (ad.add (G * 6))) ((l.drop G).take P) := by
        intro hp
        obtain ⟨b, o, e, _⟩ := h.lies (by have := HLS.out; have := h.n; omega)
        simp only [Option.some.injEq] at e
        subst e
        rw [add_plain]
        exact (h.lies.drop G).take P (by have := HLS.out; omega)
      have CL := fun w' (hb : Below w.heap.size w w') => clone_any (some (ad.add (G * 6))) P (c - G) ((l.drop G).take P) w' ⟨HLS.out.symm, RD.below hb⟩ (fun h => by cases h) (by omega)
      have hPc : (P : Int) ≤ ((c - G : Nat) : Int) := by omega
      have hPc' : P ≤ c - G := by omega
      clear hE ho hn5 hneg h0 h hc hcb hG hP hq hq0 RD
      go_wp2_with fail
      refine RF.mono ?_
      rintro e w1 ⟨rfl, hb1⟩
      have C1 := CL w1 hb1
      clear CL RF
      simp only []
      go_wp2_with fail
      refine C1.mono ?_
      rintro e w2 ⟨v2, rfl, on2⟩
      simp only []
      go_wp2
      go_ret2
      refine ⟨v2, by rw [HE.out]; rfl, ?_⟩
      rw [HL.out, HR.out]
      exact ⟨own_mono on2.own hb1.size, below_more hb1 on2.bel⟩
  · have HE : Hid (E = refE l) := by show E = _; rw [← hE]; unfold rangeE; rw [if_pos h0]
    have HL : Hid (rangeL l f k = []) := by show _ = _; unfold rangeL; rw [hE, if_neg (by rw [HE.out]; exact h0)]
    have HE2 : Hid (refE l = E) := HE.out.symm
    generalize refE l = R at RF HE h0
    have hne : ((R : Int) != 0) = true := by simpa using h0
    clear hE
    go_wp2_with fail
    refine RF.mono ?_
    rintro e w1 ⟨rfl, hb1⟩
    simp only []
    go_wp2
    go_ret2
    refine ⟨_, ?_, by rw [HL.out]; exact ⟨rown_nil _ _, hb1⟩⟩
    rw [HE.out]; rfl

theorem run_copy_sz {P : Program} (w : World) (dT sT ty elem : TypeId) (g dLen dCap k : Nat) (a : Addr) (sLen sCap : Nat) (cur : Array Value) (t : TypeId) (cs : List Value)
    (hu : P.underlying dT = some (.slice elem)) (hs : (P.info? elem).map (·.size) = some k)
    (hg : w.heap[g]? = some (.cells cur t (0, 0))) (hn : cs.length = Nat.min sLen dLen * k)
    (hsrc : ∀ j v, cs[j]? = some v → w.cell? (a.add j) = some v) (hfit : cs.length ≤ cur.size) (h1 : ∀ v ∈ cs, v.oneCell' = true) :
    (Builtin.copy_ #[dT, sT] ty #[.slice (some ⟨g, 0, none⟩) dLen dCap, .slice (some a) sLen sCap]).run P w =
      .ok (goInt (Nat.min sLen dLen)) (w.setRow g (cs ++ cur.toList.drop cs.length).toArray) := by
  have hl := run_loadCells_list (P := P) w a cs hsrc
  have hst := run_storeCells_at P g 0 t cs 0 cur w hg (by simpa using hfit) h1
  cases hq : P.info? elem with
  | none => simp [hq] at hs
  | some i =>
    have hi : i.size = k := by simpa [hq] using hs
    simp [Builtin.copy_, run_underlying hu, Builtin.lenOf, Builtin.firstCells, sizeOf, typeInfo, hq, hi, ← hn, hl, hst]
theorem copy_recs (w : World) (g : Nat) (ty : TypeId) (q : Option Addr) (n c : Nat) (l : List RecV) (cur : Array Value) (h : RsL w q n l) (hq : q = none → c = 0) (hg : w.heap[g]? = some (.cells cur 41 (0, 0))) (hs : cur.size = (n + 1) * 6) (hn : n ≤ 5000) (base : Nat) (hb : base ≤ g) :
    ∃ w', (Builtin.copy_ #[36, 36] ty #[.slice (some ⟨g, 0, none⟩) n (n + 1), .slice q n c]).run Tryd.prog w = .ok (goInt n) w' ∧ ROwn w' base (.slice (some ⟨g, 0, none⟩) n (n + 1)) l ∧ w.grownBy w' (some g) := by
  have hsz : (Tryd.prog.info? 41).map (·.size) = some 6 := size_rec
  have fin : ∀ w' : World, ∀ tl : List Value, w'.heap[g]? = some (.cells (cellsR l ++ tl).toArray 41 (0, 0)) → (cellsR l ++ tl).length = (n + 1) * 6 → ROwn w' base (.slice (some ⟨g, 0, none⟩) n (n + 1)) l := by
    intro w' tl hg' hl'
    refine ⟨cellsR_len l, .inr ⟨g, n + 1, _, by rw [h.n], hb, hg', by have := h.n; omega, by unfold maxLen; omega, by simpa using hl', ?_⟩⟩
    show List.take (l.length * 6) (cellsR l ++ tl) = _
    rw [← cellsR_len l, List.take_left]
  cases q with
  | none =>
    obtain rfl := hq rfl
    obtain rfl : l = [] := by
      cases l with
      | nil => rfl
      | cons y l => obtain ⟨b, o, e, _⟩ := h.lies (by simp); cases e
    obtain rfl : n = 0 := h.n
    refine ⟨w, run_copy_nil (P := Tryd.prog) w 36 36 ty 41 ⟨g, 0, none⟩ 0 (0 + 1) Tryd.underlying36 (by rw [hsz]; rfl), ?_, ⟨rfl, rfl, rfl, Nat.le_refl _, fun _ _ _ => rfl⟩⟩
    exact fin w cur.toList (by simpa [cellsR] using hg) (by simpa [cellsR] using hs)
  | some ad =>
    have hsrc : ∀ j u, (cellsR l)[j]? = some u → w.cell? (ad.add j) = some u := by
      intro j u hu
      have hpos : 0 < l.length := by
        cases l with
        | nil => simp [cellsR] at hu
        | cons y l => simp
      obtain ⟨b, o, e, _⟩ := h.lies hpos
      simp at e
      subst e
      exact recs_cells h.lies j u hu
    have hmin : Nat.min n n = n := Nat.min_self n
    have hr := run_copy_sz (P := Tryd.prog) w 36 36 ty 41 g n (n + 1) 6 ad n c cur 41 (cellsR l) Tryd.underlying36 hsz hg (by rw [cellsR_len, hmin, h.n]) hsrc (by rw [cellsR_len, hs]; have := h.n; omega) (cellsR_one l)
    rw [hmin] at hr
    refine ⟨_, hr, ?_, grown_setRow _ _ _⟩
    refine fin _ (cur.toList.drop (cellsR l).length) (setRow_heap w g _ _ _ _ hg) ?_
    have e : cur.toList.length = (n + 1) * 6 := by rw [Array.length_toList]; exact hs
    rw [List.length_append, List.length_drop, cellsR_len, e]
    have := h.n
    omega
theorem make_recs (n : Nat) (w : World) (hn : n ≤ 5000) : ∃ cur : Array Value, (Instr.makeSlice 36 (.int .i64 (n : Int)) (.int .i64 ((n : Int) + 1))).run Tryd.prog w = .ok (.slice (some ⟨w.heap.size, 0, none⟩) n (n + 1)) (w.alloc (.cells cur 41)) ∧ cur.size = (n + 1) * 6 := by
  obtain ⟨i0, hi, hz0, hz1, hz2⟩ := info_parts' info_rec
  have hr := run_make (P := Tryd.prog) w 36 41 i0 _ Tryd.underlying36 hi hz0 .i64 .i64 (n : Int) ((n : Int) + 1) (by omega) (by omega) (by rw [hz2]; omega) (by omega)
  rw [show ((n : Int) + 1).toNat = n + 1 by omega, Int.toNat_natCast] at hr
  exact ⟨_, hr, by rw [size_madeCells, hz1]⟩
def nextL (l : List RecV) (t : Int) (u d : ByteArray) (o : Int) (E : Nat) : List RecV := if E = 0 then l ++ [folR (prevR l l.length) t u d o] else []
set_option maxHeartbeats 4000000 in
set_option maxRecDepth 8000 in
theorem Next_any (q : Option Addr) (n c : Nat) (l : List RecV) (t : Int) (u d : ByteArray) (o : Int) (w : World) (hk : KOn w) (h : RsL w q n l) (hq : q = none → c = 0) (hnb : (n : Int) ≤ 9223372036854775807) (m : Int) (hmis : MisP l m) (E : Nat) (hE : nextE l t u d o m = E) :
    Calls Tryd.prog 20 #[.slice q n c, .int .i64 t, .string u, .string d, .int .i64 o] w fun e w' => ∃ v, e = .returned (.tuple #[v, .int .i64 (E : Int)]) ∧ OnR w v (nextL l t u d o E) w' := by
  have RF := refused_any q n c l w h.lies h.n hnb
  have FF := fun w' => refusedFields_any t u d o w'
  go_enter Tryd.func20, Tryd.ntmps20
  by_cases h0 : refE l = 0
  · rw [h0] at RF
    have ho := ref_ok h0
    have hn5 : (n : Int) ≤ 4096 := by have := h.n; have := ho.1; omega
    by_cases h1 : fldE t u d o = 0
    · rw [h1] at FF
      by_cases h2 : n = 4096
      · have HE : Hid (E = 4) := by show E = 4; rw [← hE]; unfold nextE; rw [if_neg (by omega), if_neg (by omega), if_pos (by rw [← h.n]; exact h2)]
        have HL : Hid (nextL l t u d o E = []) := by show _ = _; unfold nextL; rw [HE.out]; rfl
        subst h2
        clear hE ho hn5 h hmis hnb hq
        go_wp2_with fail
        refine RF.mono ?_
        rintro e w1 ⟨rfl, hb1⟩
        simp only []
        go_wp2_with fail
        refine (FF _).mono ?_
        rintro e w2 ⟨rfl, rfl⟩
        simp only []
        go_wp2
        go_ret2
        refine ⟨_, ?_, by rw [HL.out]; exact ⟨rown_nil _ _, hb1⟩⟩
        rw [HE.out]; rfl
      have hne : ((n : Int) == 4096) = false := by simpa using fun e : (n : Int) = 4096 => h2 (by omega)
      have LA := fun w' (hb : Below w.heap.size w w') => last_any q n c l w' (h.lies.below hb) h.n hnb
      have MF := fun w' (hb : Below w.heap.size w w') => misfit_any q n c l w' (hk.below hb hk.pos) (h.lies.below hb) h.n ho.2 hn5 m hmis
      have hge := mis_ge hmis
      have hahd := prev_ahd ho.2 (Nat.le_refl l.length)
      by_cases h3 : t < (prevR l l.length).tim ∨ 0 ≤ m
      · have HE : Hid (E = 150) := by show E = 150; rw [← hE]; unfold nextE; rw [if_neg (by omega), if_neg (by omega), if_neg (by rw [← h.n]; exact h2), if_pos h3]
        have HL : Hid (nextL l t u d o E = []) := by show _ = _; unfold nextL; rw [HE.out]; rfl
        generalize prevR l l.length = a at LA h3 hahd
        obtain ⟨a0, a1, a2, a3, a4, a5⟩ := a
        simp only [recA] at LA h3
        clear hE ho hn5 h hmis hnb hq hahd
        go_wp2_with fail
        refine RF.mono ?_
        rintro e w1 ⟨rfl, hb1⟩
        simp only []
        go_wp2_with fail
        refine (FF _).mono ?_
        rintro e w2 ⟨rfl, rfl⟩
        have L2 := LA _ hb1
        clear LA
        simp only []
        go_wp2_with fail
        refine L2.mono ?_
        rintro e w3 ⟨rfl, hb3⟩
        have B3 := below_more hb1 hb3
        have B4 : Below w.heap.size w (w3.alloc (.cells #[.int .i64 a0, .int .i64 a1, .string a2, .string a3, .int .i64 a4, .string a5] 41)) := B3.alloc B3.size _
        have M4 := MF _ B4
        clear MF
        simp only []
        by_cases h4 : t < a1
        · go_wp2
          go_ret2
          refine ⟨_, ?_, by rw [HL.out]; exact ⟨rown_nil _ _, B4⟩⟩
          rw [HE.out]; rfl
        · have h5 : 0 ≤ m := by omega
          go_wp2_with (go_at_call 42; refine M4.mono ?_; rintro e w5 ⟨rfl, hb5⟩)
          go_ret2
          refine ⟨_, ?_, by rw [HL.out]; exact ⟨rown_nil _ _, below_more B4 hb5⟩⟩
          rw [HE.out]; rfl
      · have HE : Hid (E = 0) := by show E = 0; rw [← hE]; unfold nextE; rw [if_neg (by omega), if_neg (by omega), if_neg (by rw [← h.n]; exact h2), if_neg h3]
        have HL : Hid (nextL l t u d o E = l ++ [folR (prevR l l.length) t u d o]) := by show _ = _; unfold nextL; rw [HE.out]; rfl
        obtain rfl : m = -1 := by omega
        have hsq : (prevR l l.length).seq ≤ 1000000 := by rw [fit_seq l.length (mis_all hmis), ← h.n]; omega
        have FO := fun w' (hb : Below w.heap.size w w') => following_any (prevR l l.length) t u d o w' (hk.below hb hk.pos) hahd hsq h1
        have hn5' : n ≤ 5000 := by omega
        have HR : Hid (RsL w q n l) := h
        have HQ : Hid (q = none → c = 0) := hq
        have HNL : Hid (l.length + 1 ≤ 1000000) := by show _ ≤ _; have := h.n; omega
        have hn1 : ((n + 1 : Nat) : Int) = (n : Int) + 1 := by omega
        generalize hfr : folR (prevR l l.length) t u d o = fr at HL FO
        generalize prevR l l.length = a at LA h3 FO
        obtain ⟨a0, a1, a2, a3, a4, a5⟩ := a
        obtain ⟨f0, f1, f2, f3, f4, f5⟩ := fr
        simp only [recA] at LA h3 FO
        have h4 : ¬ t < a1 := by omega
        clear hE ho h hmis hq hahd hfr hsq h3 h2
        go_wp2_with fail
        refine RF.mono ?_
        rintro e w1 ⟨rfl, hb1⟩
        simp only []
        go_wp2_with fail
        refine (FF _).mono ?_
        rintro e w2 ⟨rfl, rfl⟩
        have L2 := LA _ hb1
        clear LA RF FF
        simp only []
        go_wp2_with fail
        refine L2.mono ?_
        rintro e w3 ⟨rfl, hb3⟩
        have B3 := below_more hb1 hb3
        have B4 : Below w.heap.size w (w3.alloc (.cells #[.int .i64 a0, .int .i64 a1, .string a2, .string a3, .int .i64 a4, .string a5] 41)) := B3.alloc B3.size _
        have N4 : (w3.alloc (.cells #[.int .i64 a0, .int .i64 a1, .string a2, .string a3, .int .i64 a4, .string a5] 41)).heap[w3.heap.size]? = some (.cells #[.int .i64 a0, .int .i64 a1, .string a2, .string a3, .int .i64 a4, .string a5] 41 (0, 0)) := _root_.Go.heap_alloc_new _ _
        simp only []
        go_upto_region 10 with fail
        change Code.wp _ _ _ _ (w3.alloc (.cells #[.int .i64 a0, .int .i64 a1, .string a2, .string a3, .int .i64 a4, .string a5] 41))
        generalize w3.heap.size = g4 at N4 ⊢
        generalize w3.alloc (.cells #[.int .i64 a0, .int .i64 a1, .string a2, .string a3, .int .i64 a4, .string a5] 41) = W4 at N4 B4 ⊢
        have M4 := MF _ B4
        have c1 : W4.cell? ⟨g4, 1, none⟩ = some (.int .i64 a1) := Lib.cell_of_heap N4 1
        clear MF L2 hb3 B3
        go_upto_region 12 with (go_at_call 42; refine M4.mono ?_; rintro e w5 ⟨rfl, hb5⟩)
        have B5 := below_more B4 hb5
        have N5 := (hb5.block _ (rw_lt N4)).trans N4
        clear M4 c1 N4 B4 hb5
        obtain ⟨cur, hmk, hcs⟩ := make_recs n w5 hn5'
        have N6 : (w5.alloc (.cells cur 41)).heap[g4]? = some (.cells #[.int .i64 a0, .int .i64 a1, .string a2, .string a3, .int .i64 a4, .string a5] 41 (0, 0)) := (_root_.Go.heap_alloc_old _ _ (rw_lt N5)).trans N5
        have B6 : Below w.heap.size w (w5.alloc (.cells cur 41)) := B5.alloc B5.size _
        have X6 : (w5.alloc (.cells cur 41)).heap[w5.heap.size]? = some (.cells cur 41 (0, 0)) := _root_.Go.heap_alloc_new _ _
        have l5 := rw_lt N5
        have s5 := B5.size
        obtain ⟨w7, hcp, ho7, hg7⟩ := copy_recs (w5.alloc (.cells cur 41)) w5.heap.size 3 q n c l cur (HR.out.below B6) HQ.out X6 hcs hn5' w.heap.size s5
        go_upto_region 14 with (at_builtin; refine wpList_copy_is rfl _ _ 36 36 rfl rfl rfl hcp ?_)
        have N7 : w7.heap[g4]? = some (.cells #[.int .i64 a0, .int .i64 a1, .string a2, .string a3, .int .i64 a4, .string a5] 41 (0, 0)) := (hg7.block _ (rw_lt N6) (by simp; omega)).trans N6
        have B7 : Below w.heap.size w w7 := B6.grown hg7 B6.size (fun k hk' => by cases hk'; omega)
        have O7 : OnR w (.slice (some ⟨w5.heap.size, 0, none⟩) n (n + 1)) l w7 := ⟨ho7, B7⟩
        have F7 := FO _ B7
        generalize w5.heap.size = g7 at O7 ⊢
        clear hmk hcp ho7 hg7 N5 N6 B5 B6 X6 l5 s5 FO
        have c0 : w7.cell? ⟨g4, 0, none⟩ = some (.int .i64 a0) := Lib.cell_of_heap N7 0
        have c1 : w7.cell? ⟨g4, 1, none⟩ = some (.int .i64 a1) := Lib.cell_of_heap N7 1
        have c2 : w7.cell? ⟨g4, 2, none⟩ = some (.string a2) := Lib.cell_of_heap N7 2
        have c3 : w7.cell? ⟨g4, 3, none⟩ = some (.string a3) := Lib.cell_of_heap N7 3
        have c4 : w7.cell? ⟨g4, 4, none⟩ = some (.int .i64 a4) := Lib.cell_of_heap N7 4
        have c5 : w7.cell? ⟨g4, 5, none⟩ = some (.string a5) := Lib.cell_of_heap N7 5
        go_wp2_with fail
        refine F7.mono ?_
        rintro e w8 ⟨rfl, hb8⟩
        have O8 := O7.call hb8
        have O9 := O8.call (w' := w8.alloc (.cells (recA ⟨f0, f1, f2, f3, f4, f5⟩) 41)) ((Below.refl _ _).alloc (Nat.le_refl _) _)
        have R9 := rec_one w8 ⟨f0, f1, f2, f3, f4, f5⟩ 41
        clear c0 c1 c2 c3 c4 c5 N7 O7 F7 hb8 O8 B7
        simp only []
        go_wp2_with (at_builtin; refine wpList_append_recs _ rfl _ _ rfl w.heap.size _ l [⟨f0, f1, f2, f3, f4, f5⟩] (some ⟨w8.heap.size, 0, none⟩) 1 1 rfl rfl rfl O9.own R9 (fun h => by cases h) HNL.out O9.bel.size ?_)
        intro v' w' ho' hg'
        have R := O9.two ho' hg'
        clear ho' hg' O9 R9
        go_wp2
        go_ret2
        refine ⟨_, ?_, by rw [HL.out]; exact R⟩
        rw [HE.out]; rfl
    · have HE : Hid (E = fldE t u d o) := by show E = _; rw [← hE]; unfold nextE; rw [if_neg (by omega), if_pos h1]
      have HL : Hid (nextL l t u d o E = []) := by show _ = _; unfold nextL; rw [if_neg (by rw [HE.out]; exact h1)]
      generalize fldE t u d o = R at FF HE h1
      have hne : ((R : Int) != 0) = true := by simpa using h1
      clear hE ho hn5 h hmis hq
      go_wp2_with fail
      refine RF.mono ?_
      rintro e w1 ⟨rfl, hb1⟩
      simp only []
      go_wp2_with fail
      refine (FF _).mono ?_
      rintro e w2 ⟨rfl, rfl⟩
      simp only []
      go_wp2
      go_ret2
      refine ⟨_, ?_, by rw [HL.out]; exact ⟨rown_nil _ _, hb1⟩⟩
      rw [HE.out]; rfl
  · have HE : Hid (E = refE l) := by show E = _; rw [← hE]; unfold nextE; rw [if_pos h0]
    have HL : Hid (nextL l t u d o E = []) := by show _ = _; unfold nextL; rw [if_neg (by rw [HE.out]; exact h0)]
    generalize refE l = R at RF HE h0
    have hne : ((R : Int) != 0) = true := by simpa using h0
    clear hE h hmis hq
    go_wp2_with fail
    refine RF.mono ?_
    rintro e w1 ⟨rfl, hb1⟩
    simp only []
    go_wp2
    go_ret2
    refine ⟨_, ?_, by rw [HL.out]; exact ⟨rown_nil _ _, hb1⟩⟩
    rw [HE.out]; rfl
end Go.Proofs.YtoagaddciapmkaaDoor
