import Derived.Test.YtghcmllmbpoidaaGreatDoorJ16
import Derived.Test.YtghcmllmbpoidaaGreatDoorJ17
namespace Go.Proofs.YtghcmllmbpoidaaGreatDoor
open Go.RowKit Go.WideShapes Rm Dk
abbrev flA : Bool × Int × List Nat := (true, 0, [])
def slotA (other : Nat) (y : DirV) : Acts := (List.range 8).map fun i => (false, ((other + i : Nat) : Int), secAt (bytesN y) i)
def turnA (F : Acts) (other : Nat) (y : DirV) : Acts := (if F = [] then [] else F ++ [flA]) ++ (slotA other y ++ [flA])
theorem turnA_mem {F : Acts} {other : Nat} {y : DirV} {s : Nat} {X : List Nat} (h : (false, (s : Int), X) ∈ turnA F other y) : (false, (s : Int), X) ∈ F ∨ ∃ i, i < 8 ∧ s = other + i ∧ X = secAt (bytesN y) i := by
  unfold turnA at h
  rcases List.mem_append.1 h with h | h
  · split at h
    · cases h
    · rcases List.mem_append.1 h with h | h
      · exact .inl h
      · simp [flA] at h
  · rcases List.mem_append.1 h with h | h
    · obtain ⟨i, hi, e⟩ := List.mem_map.1 h
      simp only [Prod.mk.injEq, true_and] at e
      exact .inr ⟨i, List.mem_range.1 hi, by omega, e.2.symm⟩
    · simp [flA] at h
theorem now_put {count : Int} {data D : List Nat} {ws W : Puts} {C : Acts} {s : Nat} {X : List Nat} (hs : (s : Int) < count) (ho : Okay count data ws) (e : doN count (data, ws) C = .ok (D, W)) (hX : ∀ x, (false, (s : Int), x) ∈ C → x = X) (hin : (false, (s : Int), X) ∈ C) : nowN D W (s : Int) = X := by
  rcases now_do (X := X) hs C [] (st := (data, ws)) (st' := (D, W)) ho (.inl (fun x hx => by cases hx)) hX e with h | h
  · exact absurd (by simpa using hin) (h X)
  · exact h
theorem now_keep {count : Int} {data D : List Nat} {ws W : Puts} {C : Acts} {s : Nat} (hs : (s : Int) < count) (ho : Okay count data ws) (e : doN count (data, ws) C = .ok (D, W)) (hno : ∀ x, (false, (s : Int), x) ∉ C) : nowN D W (s : Int) = nowN data ws (s : Int) := by
  rcases now_do (X := nowN data ws (s : Int)) hs C [(false, (s : Int), nowN data ws (s : Int))] (st := (data, ws)) (st' := (D, W)) ho (.inr rfl) (fun x hx => absurd hx (hno x)) e with h | h
  · exact absurd (by simp) (h (nowN data ws (s : Int)))
  · exact h
theorem can_do {count : Int} : ∀ {B : Acts} {data : List Nat} {ws : Puts}, (∀ a ∈ B, a.1 = true ∨ (0 ≤ a.2.1 ∧ a.2.1 < count ∧ a.2.2.length = 128)) → ws.length + B.length ≤ 4096 → ∃ D W, doN count (data, ws) B = .ok (D, W)
  | [], data, ws, _, _ => ⟨data, ws, rfl⟩
  | a :: B, data, ws, h, hl => by
    simp only [List.length_cons] at hl
    by_cases hf : a.1 = true
    · obtain ⟨D, W, e⟩ := can_do (B := B) (data := settleN data ws) (ws := []) (fun b hb => h b (List.mem_cons_of_mem _ hb)) (by simp; omega)
      refine ⟨D, W, ?_⟩
      rw [← e]
      show (match stepA count (data, ws) a with | .ok s => doN count s B | .error e => .error e) = _
      unfold stepA
      rw [if_pos hf]
    · obtain ⟨h1, h2, h3⟩ := (h a (by simp)).resolve_left hf
      obtain ⟨D, W, e⟩ := can_do (B := B) (data := data) (ws := ws ++ [a.2]) (fun b hb => h b (List.mem_cons_of_mem _ hb)) (by simp; omega)
      refine ⟨D, W, ?_⟩
      rw [← e]
      show (match stepA count (data, ws) a with | .ok s => doN count s B | .error e => .error e) = _
      unfold stepA
      rw [if_neg hf, if_neg (by simp; omega), if_neg (by simp [h3]), if_neg (by simp; omega)]
theorem turn_sure {count : Int} {data D : List Nat} {ws W : Puts} {F : Acts} {other : Nat} {y : DirV} (e : doN count (data, ws) (turnA F other y) = .ok (D, W)) : W = [] := by
  unfold turnA at e
  rw [← List.append_assoc, doN_app] at e
  generalize doN count (data, ws) ((if F = [] then [] else F ++ [flA]) ++ slotA other y) = r at e
  cases r with
  | error c => cases e
  | ok s =>
    have h : doN count s [flA] = .ok (settleN s.1 s.2, []) := rfl
    simp only [h, Except.ok.injEq, Prod.mk.injEq] at e
    exact e.2.symm
section
variable {lt : ByteArray → ByteArray → Bool} (tot : ∀ a b, a ≠ b → lt a b = true ∨ lt b a = true) (irr : ∀ a, lt a a = false) (tr : ∀ a b c, lt a b = true → lt b c = true → lt a c = true)
include tot irr tr
end
end Go.Proofs.YtghcmllmbpoidaaGreatDoor
namespace Go.Proofs.YtghcmllmbpoidaaGreatDoor
open Go.RowKit Go.WideShapes Rm
abbrev ActF := (Bool × Int × List Nat) × Value
def cellsT (l : List ActF) : List Value := l.flatMap fun y => [.bool y.1.1, .int .i64 y.1.2.1, y.2]
theorem cellsT_len (l : List ActF) : (cellsT l).length = l.length * 3 := by
  induction l with
  | nil => rfl
  | cons y l ih => simp only [cellsT, List.flatMap_cons, List.length_append, List.length_cons, List.length_nil] at *; omega
theorem cellsT_app (l m : List ActF) : cellsT (l ++ m) = cellsT l ++ cellsT m := by simp [cellsT]
theorem cellsT_at : ∀ (l : List ActF) (i : Nat), i < l.length → (cellsT l)[i * 3]? = some (.bool ((l.map Prod.fst).getD i (false, 0, [])).1) ∧ (cellsT l)[i * 3 + 1]? = some (.int .i64 ((l.map Prod.fst).getD i (false, 0, [])).2.1) ∧ ∃ y ∈ l, y.1 = (l.map Prod.fst).getD i (false, 0, []) ∧ (cellsT l)[i * 3 + 2]? = some y.2
  | y :: l, 0, _ => ⟨rfl, rfl, y, by simp, rfl, rfl⟩
  | y :: l, i + 1, h => by
    obtain ⟨h1, h2, z, h3, h4, h5⟩ := cellsT_at l i (by simpa using h)
    rw [show (i + 1) * 3 = i * 3 + 1 + 1 + 1 from by omega]
    have e : ∀ j, (cellsT (y :: l))[j + 1 + 1 + 1]? = (cellsT l)[j]? := fun j => by simp [cellsT]
    have e2 : ((y :: l).map Prod.fst).getD (i + 1) (false, 0, []) = (l.map Prod.fst).getD i (false, 0, []) := by simp [List.getD]
    refine ⟨by rw [e, e2]; exact h1, by rw [e, e2]; exact h2, z, by simp [h3], by rw [e2]; exact h4, ?_⟩
    rw [show i * 3 + 1 + 1 + 1 + 2 = (i * 3 + 2) + 1 + 1 + 1 from by omega, e]
    exact h5
  | [], _, h => by simp at h
structure DataO (w : World) (base : Nat) (dv : Value) (xs : List Nat) : Prop where
  own : w.ownsRow base 5 1 dv xs.length (Bs xs)
  byt : ∀ c ∈ xs, c < 256
theorem DataO.row {w : World} {base : Nat} {dv : Value} {xs : List Nat} (h : DataO w base dv xs) : Row w dv xs := by
  obtain ⟨q, m, rfl, h1, h2, h3⟩ := own_form h.own
  exact ⟨⟨q, m, rfl, own_in h.own h.byt, h1, h2, h3⟩⟩
theorem DataO.below {w w' : World} {base : Nat} {dv : Value} {xs : List Nat} (h : DataO w base dv xs) (hb : Below w.heap.size w w') : DataO w' base dv xs := ⟨own_below h.own hb, h.byt⟩
theorem DataO.mono {w : World} {base base' : Nat} {dv : Value} {xs : List Nat} (h : DataO w base dv xs) (hb : base' ≤ base) : DataO w base' dv xs := ⟨own_mono h.own hb, h.byt⟩
structure AOwn (w : World) (base : Nat) (v : Value) (l : List ActF) : Prop where
  row : w.ownsRow base 90 3 v l.length (cellsT l)
  data : ∀ y ∈ l, DataO w base y.2 y.1.2.2
theorem aown_nil (w : World) (base : Nat) : AOwn w base (.slice none 0 0) [] := ⟨World.ownsRow_nil _ _ _ _, fun y hy => by cases hy⟩
theorem AOwn.below {w w' : World} {base : Nat} {v : Value} {l : List ActF} (h : AOwn w base v l) (hb : Below w.heap.size w w') : AOwn w' base v l := ⟨own_below h.row hb, fun y hy => (h.data y hy).below hb⟩
theorem AOwn.form {w : World} {base : Nat} {v : Value} {l : List ActF} (h : AOwn w base v l) : ∃ q m, v = .slice q l.length m ∧ l.length ≤ m ∧ m ≤ maxLen ∧ (q = none → m = 0) := own_form h.row
theorem AOwn.cells {w : World} {base n m : Nat} {ad : Addr} {l : List ActF} (h : AOwn w base (.slice (some ad) n m) l) : ∀ j u, (cellsT l)[j]? = some u → w.cell? (ad.add j) = some u := by
  intro j u hu
  rcases h.row.2 with ⟨hv, _⟩ | ⟨g, cap, cur, hv, hb, hg, hle, hmax, hsz, htk⟩
  · cases hv
  · simp only [Value.slice.injEq, Option.some.injEq] at hv
    obtain ⟨rfl, rfl, rfl⟩ := hv
    have hj : j < l.length * 3 := by rw [← cellsT_len]; exact (List.getElem?_eq_some_iff.1 hu).1
    rw [add_plain, cell_of_row w g (0 + j) cur _ _ hg, Nat.zero_add]
    rw [← htk, List.getElem?_take_of_lt hj] at hu
    simpa using hu
theorem AOwn.lies {w : World} {base : Nat} {q : Option Addr} {n m : Nat} {l : List ActF} (h : AOwn w base (.slice q n m) l) : n = l.length ∧ ActsIn w q (l.map Prod.fst) ∧ l.length ≤ m ∧ m ≤ maxLen := by
  rcases h.row.2 with ⟨hv, hn⟩ | ⟨g, cap, cur, hv, hb, hg, hle, hmax, hsz, htk⟩
  · simp only [Value.slice.injEq] at hv
    obtain ⟨rfl, rfl, rfl⟩ := hv
    exact ⟨by omega, fun h => by rw [List.length_map] at h; omega, by omega, by unfold maxLen; omega⟩
  · simp only [Value.slice.injEq] at hv
    obtain ⟨rfl, rfl, rfl⟩ := hv
    refine ⟨rfl, fun _ => ⟨g, 0, rfl, fun i hi => ?_⟩, hle, hmax⟩
    rw [List.length_map] at hi
    obtain ⟨c0, c1, y, hy, c2, c3⟩ := cellsT_at l i hi
    have hc : ∀ j u, (cellsT l)[j]? = some u → w.cell? ⟨g, 0 + j, none⟩ = some u := fun j u hu => by have := h.cells j u hu; rwa [add_plain] at this
    refine ⟨hc _ _ c0, hc _ _ c1, y.2, hc _ _ c3, ?_⟩
    rw [← c2]
    exact (h.data y hy).row
theorem info_act : (Tryz.prog.info? 90).map (fun i => (i.zero, i.size, i.bytes)) = some (some (.agg #[.bool false, .int .i64 0, .slice none 0 0]), 3, 40) := by kernel_rfl
theorem cellsT_one {w : World} {base : Nat} {l : List ActF} (h : ∀ y ∈ l, DataO w base y.2 y.1.2.2) : ∀ u ∈ cellsT l, u.oneCell' = true := by
  intro u hu
  simp only [cellsT, List.mem_flatMap, List.mem_cons, List.not_mem_nil, or_false] at hu
  obtain ⟨y, hy, rfl | rfl | rfl⟩ := hu
  · rfl
  · rfl
  · obtain ⟨q, m, e, _⟩ := own_form (h y hy).own
    rw [e]
    rfl
theorem run_append_acts (w : World) (ty : TypeId) (base : Nat) (v : Value) (l m : List ActF) (ad : Addr) (c : Nat) (hown : AOwn w base v l) (hd : ∀ y ∈ m, DataO w base y.2 y.1.2.2)
    (hc : ∀ j u, (cellsT m)[j]? = some u → w.cell? (ad.add j) = some u) (hlen : l.length + m.length ≤ 1000000) (hbase : base ≤ w.heap.size) :
    ∃ v' w', (Builtin.append_ #[51, 51] ty #[v, .slice (some ad) m.length c]).run Tryz.prog w = .ok v' w' ∧ AOwn w' base v' (l ++ m) ∧ w.grownBy w' v.ownBlock := by
  obtain ⟨i0, hi, hz0, hz1, hz2⟩ := info_parts' info_act
  obtain ⟨v', w', g1, g2, g3, _⟩ := run_append_own (P := Tryz.prog) w base 51 ty 90 i0 _ 3 40 Tryz.underlying51 hi hz0 hz1 hz2 rfl (by decide) v l.length (cellsT l) hown.row ad m.length c (cellsT m) (cellsT_len m) hc (cellsT_one hd) (by unfold maxLen; omega) (by omega) hbase
  refine ⟨v', w', g1, ⟨?_, fun y hy => ?_⟩, g3⟩
  · rw [cellsT_app, List.length_append]
    exact g2
  · have hy' : DataO w base y.2 y.1.2.2 := by
      rcases List.mem_append.1 hy with h | h
      · exact hown.data y h
      · exact hd y h
    exact ⟨World.ownsRow.kept hy'.own g3 (apart_own hy'.own hown.row (by decide)), hy'.byt⟩
theorem wpList_append_acts (w : World) {ops : Array Oper} {rest : List Oper} {o : Oper} {a : Act} {Q : Exit → Act → World → Prop} (hgd : o.guard = none) (s x : Operand)
    (ho : o.op = .call { callee := .builtin .append, args := #[s, x], argTypes := #[51, 51] }) (base : Nat) (v : Value) (l m : List ActF) (ad : Addr) (n c : Nat) (hs : a.eval s = v) (hx : a.eval x = .slice (some ad) n c) (hn : n = m.length)
    (hown : AOwn w base v l) (hd : ∀ y ∈ m, DataO w base y.2 y.1.2.2) (hc : ∀ j u, (cellsT m)[j]? = some u → w.cell? (ad.add j) = some u) (hlen : l.length + m.length ≤ 1000000) (hbase : base ≤ w.heap.size)
    (h : ∀ v' w', AOwn w' base v' (l ++ m) → w.grownBy w' v.ownBlock → wpList Tryz.prog ops Q rest (a.put o.dst v') w') : wpList Tryz.prog ops Q (o :: rest) a w := by
  subst hn
  refine wpList_plain hgd fun K hK => ?_
  obtain ⟨v', w', hr, g2, g3⟩ := run_append_acts w o.type base v l m ad c hown hd hc hlen hbase
  unfold Oper.wp execOp
  simp only [ho, resolve, invoke, builtin, Sem.run_bind, Sem.run_pure, Result.andThen_ok, List.map_toArray, List.map_cons, List.map_nil, hs, hx, hr]
  exact hK _ _ (h v' w' g2 g3)
structure OnA (w0 : World) (v : Value) (l : List ActF) (wr : World) : Prop where
  own : AOwn wr w0.heap.size v l
  bel : Below w0.heap.size w0 wr
theorem OnA.app {w0 wr w' : World} {v v' : Value} {l m : List ActF} (h : OnA w0 v l wr) (hg : wr.grownBy w' v.ownBlock) (ho : AOwn w' w0.heap.size v' m) : OnA w0 v' m w' :=
  ⟨ho, h.bel.grown hg h.bel.size (fun k hk => (World.ownsRow.lt h.own.row k hk).1)⟩
theorem OnA.next {w0 wr w' : World} {v : Value} {l : List ActF} (h : OnA w0 v l wr) (hb : Below wr.heap.size wr w') : OnA w0 v l w' := ⟨h.own.below hb, below_bt h.bel hb⟩
theorem one_act (w : World) (f : Bool) (s : Int) (dv : Value) (xs : List Nat) (g : Nat) (hg : g = w.heap.size) : ∀ j u, (cellsT [((f, s, xs), dv)])[j]? = some u → (w.alloc (.cells #[.bool f, .int .i64 s, dv] 90)).cell? ((⟨g, 0, none⟩ : Addr).add j) = some u := by
  subst hg
  intro j u hj
  rw [add_plain, cell_of_row _ _ (0 + j) _ _ _ (heap_alloc_new w _), Nat.zero_add]
  simpa [cellsT] using hj
theorem eql_nilB (w : World) (a : Option Addr) (n c n' c' : Nat) : (binOp .eql 32 (.slice a n c) (.slice none n' c')).run Tryz.prog w = .ok (.bool a.isNone) w := Lib.run_eql_slice_nil w _ _ a n c n' c' Tryz.underlying32
theorem cloneB_some (b o n c : Nat) (xs : List Nat) (w : World) (hn : n = xs.length) (hn1 : n ≤ 1000000) (hb : BIn w (some ⟨b, o, none⟩) xs) :
    Calls Tryz.prog 94 #[.slice (some ⟨b, o, none⟩) n c] w fun e w' => ∃ v', e = .returned v' ∧ DataO w' w.heap.size v' xs ∧ Below w.heap.size w w' := by
  obtain ⟨i0, hi, hz0, hz1, hz2⟩ := info_parts' info5
  have A : Hid (∀ j u, (Bs xs)[j]? = some u → w.cell? ((⟨b, o, none⟩ : Addr).add j) = some u) := bin_cells hb
  have HX : Hid (∀ c ∈ xs, c < 256) := hb.2
  have HN : Hid (n = xs.length ∧ (Bs xs).length = n * 1) := ⟨hn, by rw [Bs_len]; omega⟩
  clear hb hn
  have q22 := eql_nilB
  go_enter Tryz.func94, Tryz.ntmps94
  go_wp2_with (at_builtin; refine wpList_append_own _ rfl _ _ 32 rfl w.heap.size 5 i0 _ 1 1 Tryz.underlying32 hi hz0 hz1 hz2 rfl (by omega) _ _ _ rfl (World.ownsRow_made w #[] 0 (Nat.le_refl _) (Nat.zero_le _) (by simp)) ⟨b, o, none⟩ n c (Bs xs) rfl ?qc1 ?qc2 ?qc3 ?qc4 ?qc5 ?qc6 ?_)
  case qc1 => exact HN.out.2
  case qc2 =>
    intro j u hj
    exact Lib.cell?_alloc_some _ (A.out j u hj)
  case qc3 => exact Bs_one xs
  case qc4 => unfold maxLen; omega
  case qc5 => omega
  case qc6 => simp
  intro v' w1 hown hgrow hnil
  have R : Hid (DataO w1 w.heap.size v' xs) := by
    refine ⟨?_, HX.out⟩
    rw [← HN.out.1]
    simpa using hown
  have G : Hid (Below w.heap.size w w1) := ((Below.refl _ w).alloc (Nat.le_refl _) _).grown hgrow (by simp) (by intro k hk; simp [Value.ownBlock] at hk; omega)
  clear hown hgrow
  go_wp2
  go_ret
  exact ⟨v', rfl, R.out, G.out⟩
def secsA (o : Nat) (xs : List Nat) (k : Nat) : Acts := (List.range k).map fun i => (false, ((o + i : Nat) : Int), secAt xs i)
theorem secsA_snoc (o : Nat) (xs : List Nat) (k : Nat) : secsA o xs (k + 1) = secsA o xs k ++ [(false, ((o + k : Nat) : Int), secAt xs k)] := by
  unfold secsA; rw [List.range_succ, List.map_append]; rfl
set_option maxRecDepth 8000 in
set_option maxHeartbeats 2000000 in
theorem slotActs_any (a : Nat) (p : Option Addr) (c : Nat) (xs : List Nat) (w : World) (ha : a ≤ 5000) (hb : BIn w p xs) (hlen : xs.length = 1024) (hc : 1024 ≤ c) (hcm : c ≤ maxLen) :
    Calls Tryz.prog 63 #[.int .i64 (a : Int), .slice p 1024 c] w fun e w' => ∃ v l, e = .returned v ∧ OnA w v l w' ∧ l.map Prod.fst = secsA a xs 8 ++ [flA] := by
  obtain ⟨b, o, rfl, _⟩ := hb.1 (by omega)
  have HB : Hid (BIn w (some ⟨b, o, none⟩) xs) := hb
  have HLN : Hid (xs.length = 1024) := hlen
  unfold maxLen at hcm
  have haI : (a : Int) ≤ 5000 := by omega
  clear hb hlen
  go_enter Tryz.func63, Tryz.ntmps63
  go_wp2
  go_loopw [5, 8] (fun v i wr => ∃ (k : Nat) (l : List ActF), k ≤ 8 ∧ i = .int .i64 (k : Int) ∧ l.map Prod.fst = secsA a xs k ∧ OnA w v l wr) (fun _ i _ => 8 - (intOf i).toNat)
  case atStart => exact ⟨0, [], by omega, rfl, rfl, aown_nil _ _, Below.refl _ _⟩
  case round =>
    obtain ⟨k, l, hk, rfl, hml, hz⟩ := hrel
    obtain ⟨vq, vm, rfl, _, _, _⟩ := hz.own.form
    have HZ : Hid (OnA w (.slice vq l.length vm) l wr) := hz
    have HML : Hid (l.map Prod.fst = secsA a xs k) := hml
    have HLK : Hid (l.length = k) := by have := congrArg List.length hml; unfold secsA at this; show _ = _; simpa using this
    obtain ⟨lp, hlp⟩ : ∃ lp, l.length = lp := ⟨_, rfl⟩
    have HLP : Hid (l.length = lp) := hlp
    rw [hlp] at HZ ⊢
    clear hz hml hlp
    by_cases hk8 : k < 8
    · have hsl : (secAt xs k).length = 128 := secAt_len HLN.out hk8
      have hsb : BIn wr (some ⟨b, o + k * 128, none⟩) (secAt xs k) := bin_part4 (HB.out.below HZ.out.bel) (k * 128) 128 (by have := HLN.out; omega)
      have hcl := cloneB_some b (o + k * 128) ((k + 1) * 128 - k * 128) (c - k * 128) (secAt xs k) wr (by omega) (by omega) hsb
      have HS : Hid (secsA a xs (k + 1) = secsA a xs k ++ [(false, ((a + k : Nat) : Int), secAt xs k)]) := secsA_snoc a xs k
      have HK : Hid (k < 8) := hk8
      clear hsb hsl
      generalize secAt xs k = S at *
      go_wp2_with fail
      refine hcl.mono ?_
      rintro e w2 ⟨dv, rfl, hdo, hb2⟩
      obtain ⟨dq, dm, rfl, _, _, _⟩ := own_form hdo.own
      have HD : Hid (DataO w2 w.heap.size (.slice dq S.length dm) S) := hdo.mono HZ.out.bel.size
      have H2 : Hid (OnA w (.slice vq lp vm) l w2) := HZ.out.next hb2
      obtain ⟨ds, hds⟩ : ∃ ds, S.length = ds := ⟨_, rfl⟩
      rw [hds] at HD ⊢
      clear hcl hdo hb2 hds HZ
      have HI : Hid ((a : Int) + (k : Int) = ((a + k : Nat) : Int)) := by show _ = _; omega
      have H3 : Hid (OnA w (.slice vq lp vm) l (w2.alloc (.cells #[.bool false, .int .i64 ((a : Int) + (k : Int)), .slice dq ds dm] 90))) := H2.out.next (below_alloc _ _)
      have HD3 : Hid (∀ y ∈ [((false, (a : Int) + (k : Int), S), Value.slice dq ds dm)], DataO (w2.alloc (.cells #[.bool false, .int .i64 ((a : Int) + (k : Int)), .slice dq ds dm] 90)) w.heap.size y.2 y.1.2.2) := by
        intro y hy
        rw [List.mem_singleton.1 hy]
        exact HD.out.below (below_alloc _ _)
      have HC : Hid (∀ j u, (cellsT [((false, (a : Int) + (k : Int), S), Value.slice dq ds dm)])[j]? = some u → (w2.alloc (.cells #[.bool false, .int .i64 ((a : Int) + (k : Int)), .slice dq ds dm] 90)).cell? ((⟨w2.heap.size, 0, none⟩ : Addr).add j) = some u) := one_act _ _ _ _ _ _ rfl
      go_wp2_with (at_builtin; go_loud ((refine wpList_append_acts _ rfl _ _ rfl w.heap.size (.slice vq lp vm) l [((false, (a : Int) + (k : Int), S), .slice dq ds dm)] ⟨w2.heap.size, 0, none⟩ 1 1 rfl rfl rfl H3.out.own HD3.out HC.out (by have := HLK.out; have := HK.out; simp only [List.length_cons, List.length_nil]; omega) H3.out.bel.size ?_); intro v5 w5 ho5 hg5; have H5 : Hid (OnA w v5 (l ++ [((false, (a : Int) + (k : Int), S), .slice dq ds dm)]) w5) := H3.out.app hg5 ho5; clear ho5 hg5))
      go_roundw
      case rel => exact ⟨k + 1, _, HK.out, by go_num, by rw [List.map_append, HML.out, HS.out, HI.out]; rfl, H5.out⟩
      case measure => have := HK.out; simp [intOf]; omega
    · obtain rfl : k = 8 := by omega
      clear hk8 hk
      have H3 : Hid (OnA w (.slice vq lp vm) l (wr.alloc (.cells #[.bool true, .int .i64 0, .slice none 0 0] 90))) := HZ.out.next (below_alloc _ _)
      have HD3 : Hid (∀ y ∈ [((true, (0 : Int), ([] : List Nat)), Value.slice none 0 0)], DataO (wr.alloc (.cells #[.bool true, .int .i64 0, .slice none 0 0] 90)) w.heap.size y.2 y.1.2.2) := by
        intro y hy
        rw [List.mem_singleton.1 hy]
        exact ⟨World.ownsRow_nil _ _ _ _, fun c hc => by cases hc⟩
      have HC : Hid (∀ j u, (cellsT [((true, (0 : Int), ([] : List Nat)), Value.slice none 0 0)])[j]? = some u → (wr.alloc (.cells #[.bool true, .int .i64 0, .slice none 0 0] 90)).cell? ((⟨wr.heap.size, 0, none⟩ : Addr).add j) = some u) := one_act _ _ _ _ _ _ rfl
      go_wp2_with (at_builtin; go_loud ((refine wpList_append_acts _ rfl _ _ rfl w.heap.size (.slice vq lp vm) l [((true, (0 : Int), ([] : List Nat)), .slice none 0 0)] ⟨wr.heap.size, 0, none⟩ 1 1 rfl rfl rfl H3.out.own HD3.out HC.out (by have := HLK.out; simp only [List.length_cons, List.length_nil]; omega) H3.out.bel.size ?_); intro v5 w5 ho5 hg5; have H5 : Hid (OnA w v5 (l ++ [((true, (0 : Int), ([] : List Nat)), .slice none 0 0)]) w5) := H3.out.app hg5 ho5; clear ho5 hg5))
      go_ret
      exact ⟨_, _, rfl, H5.out, by rw [List.map_append, HML.out]; rfl⟩
end Go.Proofs.YtghcmllmbpoidaaGreatDoor
