/-
  Sectors for the files that are put (place).
-/
import Derived.Test.YtglcpfnpbcnejaaGreatDoorJ25
namespace Go.Proofs.YtglcpfnpbcnejaaGreatDoor
open Go.RowKit Go.WideShapes Rm

abbrev ActF := (Bool × Int × List Nat) × Value
def cellsT (l : List ActF) : List Value := l.flatMap fun y => [.bool y.1.1, .int .i64 y.1.2.1, y.2]
theorem cellsT_len (l : List ActF) : (cellsT l).length = l.length * 3 := by
  induction l with
  | nil => rfl
  | cons y l ih => simp only [cellsT, List.flatMap_cons, List.length_append, List.length_cons, List.length_nil] at *; omega
theorem cellsT_app (l m : List ActF) : cellsT (l ++ m) = cellsT l ++ cellsT m := by simp [cellsT]
theorem cellsT_at : ∀ (l : List ActF) (i : Nat), i < l.length → (cellsT l)[i * 3]? = some (.bool ((l.map Prod.fst).getD i (false, 0, [])).1) ∧ (cellsT l)[i * 3 + 1]? = some (.int .i64 ((l.map Prod.fst).getD i (false, 0, [])).2.1) ∧ ∃ y ∈ l, y.1 = (l.map Prod.fst).getD i (false, 0, []) ∧ (cellsT l)[i * 3 + 2]? = some y.2
  | y :: l, 0, _ => ⟨rfl, rfl, y, by simp, rfl, rfl⟩
  | y :: l, i + 1, h => by
    obtain ⟨h1, h2, z, h3, h4, h5⟩ := cellsT_at l i (by simpa using h)
    rw [show (i + 1) * 3 = i * 3 + 1 + 1 + 1 from by omega]
    have e : ∀ j, (cellsT (y :: l))[j + 1 + 1 + 1]? = (cellsT l)[j]? := fun j => by simp [cellsT]
    have e2 : ((y :: l).map Prod.fst).getD (i + 1) (false, 0, []) = (l.map Prod.fst).getD i (false, 0, []) := by simp [List.getD]
    refine ⟨by rw [e, e2]; exact h1, by rw [e, e2]; exact h2, z, by simp [h3], by rw [e2]; exact h4, ?_⟩
    rw [show i * 3 + 1 + 1 + 1 + 2 = (i * 3 + 2) + 1 + 1 + 1 from by omega, e]
    exact h5
  | [], _, h => by simp at h
structure DataO (w : World) (base : Nat) (dv : Value) (xs : List Nat) : Prop where
  own : w.ownsRow base 5 1 dv xs.length (Bs xs)
  byt : ∀ c ∈ xs, c < 256
theorem DataO.row {w : World} {base : Nat} {dv : Value} {xs : List Nat} (h : DataO w base dv xs) : Row w dv xs := by
  obtain ⟨q, m, rfl, h1, h2, h3⟩ := own_form h.own
  exact ⟨⟨q, m, rfl, own_in h.own h.byt, h1, h2, h3⟩⟩
theorem DataO.below {w w' : World} {base : Nat} {dv : Value} {xs : List Nat} (h : DataO w base dv xs) (hb : Below w.heap.size w w') : DataO w' base dv xs := ⟨own_below h.own hb, h.byt⟩
theorem DataO.mono {w : World} {base base' : Nat} {dv : Value} {xs : List Nat} (h : DataO w base dv xs) (hb : base' ≤ base) : DataO w base' dv xs := ⟨own_mono h.own hb, h.byt⟩
structure AOwn (w : World) (base : Nat) (v : Value) (l : List ActF) : Prop where
  row : w.ownsRow base 47 3 v l.length (cellsT l)
  data : ∀ y ∈ l, DataO w base y.2 y.1.2.2
theorem aown_nil (w : World) (base : Nat) : AOwn w base (.slice none 0 0) [] := ⟨World.ownsRow_nil _ _ _ _, fun y hy => by cases hy⟩
theorem AOwn.below {w w' : World} {base : Nat} {v : Value} {l : List ActF} (h : AOwn w base v l) (hb : Below w.heap.size w w') : AOwn w' base v l := ⟨own_below h.row hb, fun y hy => (h.data y hy).below hb⟩
theorem AOwn.mono {w : World} {base base' : Nat} {v : Value} {l : List ActF} (h : AOwn w base v l) (hb : base' ≤ base) : AOwn w base' v l := ⟨own_mono h.row hb, fun y hy => (h.data y hy).mono hb⟩
theorem AOwn.form {w : World} {base : Nat} {v : Value} {l : List ActF} (h : AOwn w base v l) : ∃ q m, v = .slice q l.length m ∧ l.length ≤ m ∧ m ≤ maxLen ∧ (q = none → m = 0) := own_form h.row
theorem AOwn.cells {w : World} {base n m : Nat} {ad : Addr} {l : List ActF} (h : AOwn w base (.slice (some ad) n m) l) : ∀ j u, (cellsT l)[j]? = some u → w.cell? (ad.add j) = some u := by
  intro j u hu
  rcases h.row.2 with ⟨hv, _⟩ | ⟨g, cap, cur, hv, hb, hg, hle, hmax, hsz, htk⟩
  · cases hv
  · simp only [Value.slice.injEq, Option.some.injEq] at hv
    obtain ⟨rfl, rfl, rfl⟩ := hv
    have hj : j < l.length * 3 := by rw [← cellsT_len]; exact (List.getElem?_eq_some_iff.1 hu).1
    rw [add_plain, cell_of_row w g (0 + j) cur _ _ hg, Nat.zero_add]
    rw [← htk, List.getElem?_take_of_lt hj] at hu
    simpa using hu
theorem AOwn.lies {w : World} {base : Nat} {q : Option Addr} {n m : Nat} {l : List ActF} (h : AOwn w base (.slice q n m) l) : n = l.length ∧ ActsIn w q (l.map Prod.fst) ∧ l.length ≤ m ∧ m ≤ maxLen := by
  rcases h.row.2 with ⟨hv, hn⟩ | ⟨g, cap, cur, hv, hb, hg, hle, hmax, hsz, htk⟩
  · simp only [Value.slice.injEq] at hv
    obtain ⟨rfl, rfl, rfl⟩ := hv
    exact ⟨by omega, fun h => by rw [List.length_map] at h; omega, by omega, by unfold maxLen; omega⟩
  · simp only [Value.slice.injEq] at hv
    obtain ⟨rfl, rfl, rfl⟩ := hv
    refine ⟨rfl, fun _ => ⟨g, 0, rfl, fun i hi => ?_⟩, hle, hmax⟩
    rw [List.length_map] at hi
    obtain ⟨c0, c1, y, hy, c2, c3⟩ := cellsT_at l i hi
    have hc : ∀ j u, (cellsT l)[j]? = some u → w.cell? ⟨g, 0 + j, none⟩ = some u := fun j u hu => by have := h.cells j u hu; rwa [add_plain] at this
    refine ⟨hc _ _ c0, hc _ _ c1, y.2, hc _ _ c3, ?_⟩
    rw [← c2]
    exact (h.data y hy).row
theorem info_act : (Tryz.prog.info? 47).map (fun i => (i.zero, i.size, i.bytes)) = some (some (.agg #[.bool false, .int .i64 0, .slice none 0 0]), 3, 40) := by kernel_rfl
theorem cellsT_one {w : World} {base : Nat} {l : List ActF} (h : ∀ y ∈ l, DataO w base y.2 y.1.2.2) : ∀ u ∈ cellsT l, u.oneCell' = true := by
  intro u hu
  simp only [cellsT, List.mem_flatMap, List.mem_cons, List.not_mem_nil, or_false] at hu
  obtain ⟨y, hy, rfl | rfl | rfl⟩ := hu
  · rfl
  · rfl
  · obtain ⟨q, m, e, _⟩ := own_form (h y hy).own
    rw [e]
    rfl
/-- Appending acts to a row of one's own. -/
theorem run_append_acts (w : World) (ty : TypeId) (base : Nat) (v : Value) (l m : List ActF) (ad : Addr) (c : Nat) (hown : AOwn w base v l) (hd : ∀ y ∈ m, DataO w base y.2 y.1.2.2)
    (hc : ∀ j u, (cellsT m)[j]? = some u → w.cell? (ad.add j) = some u) (hlen : l.length + m.length ≤ 1000000) (hbase : base ≤ w.heap.size) :
    ∃ v' w', (Builtin.append_ #[36, 36] ty #[v, .slice (some ad) m.length c]).run Tryz.prog w = .ok v' w' ∧ AOwn w' base v' (l ++ m) ∧ w.grownBy w' v.ownBlock := by
  obtain ⟨i0, hi, hz0, hz1, hz2⟩ := info_parts' info_act
  obtain ⟨v', w', g1, g2, g3, _⟩ := run_append_own (P := Tryz.prog) w base 36 ty 47 i0 _ 3 40 Tryz.underlying36 hi hz0 hz1 hz2 rfl (by decide) v l.length (cellsT l) hown.row ad m.length c (cellsT m) (cellsT_len m) hc (cellsT_one hd) (by unfold maxLen; omega) (by omega) hbase
  refine ⟨v', w', g1, ⟨?_, fun y hy => ?_⟩, g3⟩
  · rw [cellsT_app, List.length_append]
    exact g2
  · have hy' : DataO w base y.2 y.1.2.2 := by
      rcases List.mem_append.1 hy with h | h
      · exact hown.data y h
      · exact hd y h
    exact ⟨World.ownsRow.kept hy'.own g3 (apart_own hy'.own hown.row (by decide)), hy'.byt⟩
theorem wpList_append_acts (w : World) {ops : Array Oper} {rest : List Oper} {o : Oper} {a : Act} {Q : Exit → Act → World → Prop} (hgd : o.guard = none) (s x : Operand)
    (ho : o.op = .call { callee := .builtin .append, args := #[s, x], argTypes := #[36, 36] }) (base : Nat) (v : Value) (l m : List ActF) (ad : Addr) (n c : Nat) (hs : a.eval s = v) (hx : a.eval x = .slice (some ad) n c) (hn : n = m.length)
    (hown : AOwn w base v l) (hd : ∀ y ∈ m, DataO w base y.2 y.1.2.2) (hc : ∀ j u, (cellsT m)[j]? = some u → w.cell? (ad.add j) = some u) (hlen : l.length + m.length ≤ 1000000) (hbase : base ≤ w.heap.size)
    (h : ∀ v' w', AOwn w' base v' (l ++ m) → w.grownBy w' v.ownBlock → wpList Tryz.prog ops Q rest (a.put o.dst v') w') : wpList Tryz.prog ops Q (o :: rest) a w := by
  subst hn
  refine wpList_plain hgd fun K hK => ?_
  obtain ⟨v', w', hr, g2, g3⟩ := run_append_acts w o.type base v l m ad c hown hd hc hlen hbase
  unfold Oper.wp execOp
  simp only [ho, resolve, invoke, builtin, Sem.run_bind, Sem.run_pure, Result.andThen_ok, List.map_toArray, List.map_cons, List.map_nil, hs, hx, hr]
  exact hK _ _ (h v' w' g2 g3)
structure OnA (w0 : World) (v : Value) (l : List ActF) (wr : World) : Prop where
  own : AOwn wr w0.heap.size v l
  bel : Below w0.heap.size w0 wr
theorem OnA.app {w0 wr w' : World} {v v' : Value} {l m : List ActF} (h : OnA w0 v l wr) (hg : wr.grownBy w' v.ownBlock) (ho : AOwn w' w0.heap.size v' m) : OnA w0 v' m w' :=
  ⟨ho, h.bel.grown hg h.bel.size (fun k hk => (World.ownsRow.lt h.own.row k hk).1)⟩
theorem OnA.next {w0 wr w' : World} {v : Value} {l : List ActF} (h : OnA w0 v l wr) (hb : Below wr.heap.size wr w') : OnA w0 v l w' := ⟨h.own.below hb, below_bt h.bel hb⟩
theorem one_act (w : World) (f : Bool) (s : Int) (dv : Value) (xs : List Nat) (g : Nat) (hg : g = w.heap.size) : ∀ j u, (cellsT [((f, s, xs), dv)])[j]? = some u → (w.alloc (.cells #[.bool f, .int .i64 s, dv] 47)).cell? ((⟨g, 0, none⟩ : Addr).add j) = some u := by
  subst hg
  intro j u hj
  rw [add_plain, cell_of_row _ _ (0 + j) _ _ _ (heap_alloc_new w _), Nat.zero_add]
  simpa [cellsT] using hj
theorem eql_nilB (w : World) (a : Option Addr) (n c n' c' : Nat) : (binOp .eql 22 (.slice a n c) (.slice none n' c')).run Tryz.prog w = .ok (.bool a.isNone) w := Lib.run_eql_slice_nil w _ _ a n c n' c' Tryz.underlying22
/-- bytes.Clone of a slice that is not nil. -/
theorem cloneB_some (b o n c : Nat) (xs : List Nat) (w : World) (hn : n = xs.length) (hn1 : n ≤ 1000000) (hb : BIn w (some ⟨b, o, none⟩) xs) :
    Calls Tryz.prog 98 #[.slice (some ⟨b, o, none⟩) n c] w fun e w' => ∃ v', e = .returned v' ∧ DataO w' w.heap.size v' xs ∧ Below w.heap.size w w' := by
  obtain ⟨i0, hi, hz0, hz1, hz2⟩ := info_parts' info5
  have A : Hid (∀ j u, (Bs xs)[j]? = some u → w.cell? ((⟨b, o, none⟩ : Addr).add j) = some u) := bin_cells hb
  have HX : Hid (∀ c ∈ xs, c < 256) := hb.2
  have HN : Hid (n = xs.length ∧ (Bs xs).length = n * 1) := ⟨hn, by rw [Bs_len]; omega⟩
  clear hb hn
  have q22 := eql_nilB
  go_enter Tryz.func98, Tryz.ntmps98
  go_wp2_with (at_builtin; refine wpList_append_own _ rfl _ _ 22 rfl w.heap.size 5 i0 _ 1 1 Tryz.underlying22 hi hz0 hz1 hz2 rfl (by omega) _ _ _ rfl (World.ownsRow_made w #[] 0 (Nat.le_refl _) (Nat.zero_le _) (by simp)) ⟨b, o, none⟩ n c (Bs xs) rfl ?qc1 ?qc2 ?qc3 ?qc4 ?qc5 ?qc6 ?_)
  case qc1 => exact HN.out.2
  case qc2 =>
    intro j u hj
    exact Lib.cell?_alloc_some _ (A.out j u hj)
  case qc3 => exact Bs_one xs
  case qc4 => unfold maxLen; omega
  case qc5 => omega
  case qc6 => simp
  intro v' w1 hown hgrow hnil
  have R : Hid (DataO w1 w.heap.size v' xs) := by
    refine ⟨?_, HX.out⟩
    rw [← HN.out.1]
    simpa using hown
  have G : Hid (Below w.heap.size w w1) := ((Below.refl _ w).alloc (Nat.le_refl _) _).grown hgrow (by simp) (by intro k hk; simp [Value.ownBlock] at hk; omega)
  clear hown hgrow
  go_wp2
  go_ret
  exact ⟨v', rfl, R.out, G.out⟩
end Go.Proofs.YtglcpfnpbcnejaaGreatDoor
namespace Go.Proofs.YtglcpfnpbcnejaaGreatDoor
open Go.RowKit Go.WideShapes Rm

def secsA (o : Nat) (xs : List Nat) (k : Nat) : Acts := (List.range k).map fun i => (false, ((o + i : Nat) : Int), secAt xs i)
theorem secsA_snoc (o : Nat) (xs : List Nat) (k : Nat) : secsA o xs (k + 1) = secsA o xs k ++ [(false, ((o + k : Nat) : Int), secAt xs k)] := by
  unfold secsA; rw [List.range_succ, List.map_append]; rfl
set_option maxRecDepth 8000 in
set_option maxHeartbeats 2000000 in
theorem slotActs_any (a : Nat) (p : Option Addr) (c : Nat) (xs : List Nat) (w : World) (ha : a ≤ 5000) (hb : BIn w p xs) (hlen : xs.length = 1024) (hc : 1024 ≤ c) (hcm : c ≤ maxLen) :
    Calls Tryz.prog 62 #[.int .i64 (a : Int), .slice p 1024 c] w fun e w' => ∃ v l, e = .returned v ∧ OnA w v l w' ∧ l.map Prod.fst = secsA a xs 8 ++ [flA] := by
  obtain ⟨b, o, rfl, _⟩ := hb.1 (by omega)
  have HB : Hid (BIn w (some ⟨b, o, none⟩) xs) := hb
  have HLN : Hid (xs.length = 1024) := hlen
  unfold maxLen at hcm
  have haI : (a : Int) ≤ 5000 := by omega
  clear hb hlen
  go_enter Tryz.func62, Tryz.ntmps62
  go_wp2
  go_loopw [5, 8] (fun v i wr => ∃ (k : Nat) (l : List ActF), k ≤ 8 ∧ i = .int .i64 (k : Int) ∧ l.map Prod.fst = secsA a xs k ∧ OnA w v l wr) (fun _ i _ => 8 - (intOf i).toNat)
  case atStart => exact ⟨0, [], by omega, rfl, rfl, aown_nil _ _, Below.refl _ _⟩
  case round =>
    obtain ⟨k, l, hk, rfl, hml, hz⟩ := hrel
    obtain ⟨vq, vm, rfl, _, _, _⟩ := hz.own.form
    have HZ : Hid (OnA w (.slice vq l.length vm) l wr) := hz
    have HML : Hid (l.map Prod.fst = secsA a xs k) := hml
    have HLK : Hid (l.length = k) := by have := congrArg List.length hml; unfold secsA at this; show _ = _; simpa using this
    obtain ⟨lp, hlp⟩ : ∃ lp, l.length = lp := ⟨_, rfl⟩
    have HLP : Hid (l.length = lp) := hlp
    rw [hlp] at HZ ⊢
    clear hz hml hlp
    by_cases hk8 : k < 8
    · have hsl : (secAt xs k).length = 128 := secAt_len HLN.out hk8
      have hsb : BIn wr (some ⟨b, o + k * 128, none⟩) (secAt xs k) := bin_part4 (HB.out.below HZ.out.bel) (k * 128) 128 (by have := HLN.out; omega)
      have hcl := cloneB_some b (o + k * 128) ((k + 1) * 128 - k * 128) (c - k * 128) (secAt xs k) wr (by omega) (by omega) hsb
      have HS : Hid (secsA a xs (k + 1) = secsA a xs k ++ [(false, ((a + k : Nat) : Int), secAt xs k)]) := secsA_snoc a xs k
      have HK : Hid (k < 8) := hk8
      clear hsb hsl
      generalize secAt xs k = S at *
      go_wp2_with fail
      refine hcl.mono ?_
      rintro e w2 ⟨dv, rfl, hdo, hb2⟩
      obtain ⟨dq, dm, rfl, _, _, _⟩ := own_form hdo.own
      have HD : Hid (DataO w2 w.heap.size (.slice dq S.length dm) S) := hdo.mono HZ.out.bel.size
      have H2 : Hid (OnA w (.slice vq lp vm) l w2) := HZ.out.next hb2
      obtain ⟨ds, hds⟩ : ∃ ds, S.length = ds := ⟨_, rfl⟩
      rw [hds] at HD ⊢
      clear hcl hdo hb2 hds HZ
      have HI : Hid ((a : Int) + (k : Int) = ((a + k : Nat) : Int)) := by show _ = _; omega
      have H3 : Hid (OnA w (.slice vq lp vm) l (w2.alloc (.cells #[.bool false, .int .i64 ((a : Int) + (k : Int)), .slice dq ds dm] 47))) := H2.out.next (below_alloc _ _)
      have HD3 : Hid (∀ y ∈ [((false, (a : Int) + (k : Int), S), Value.slice dq ds dm)], DataO (w2.alloc (.cells #[.bool false, .int .i64 ((a : Int) + (k : Int)), .slice dq ds dm] 47)) w.heap.size y.2 y.1.2.2) := by
        intro y hy
        rw [List.mem_singleton.1 hy]
        exact HD.out.below (below_alloc _ _)
      have HC : Hid (∀ j u, (cellsT [((false, (a : Int) + (k : Int), S), Value.slice dq ds dm)])[j]? = some u → (w2.alloc (.cells #[.bool false, .int .i64 ((a : Int) + (k : Int)), .slice dq ds dm] 47)).cell? ((⟨w2.heap.size, 0, none⟩ : Addr).add j) = some u) := one_act _ _ _ _ _ _ rfl
      go_wp2_with (at_builtin; go_loud ((refine wpList_append_acts _ rfl _ _ rfl w.heap.size (.slice vq lp vm) l [((false, (a : Int) + (k : Int), S), .slice dq ds dm)] ⟨w2.heap.size, 0, none⟩ 1 1 rfl rfl rfl H3.out.own HD3.out HC.out (by have := HLK.out; have := HK.out; simp only [List.length_cons, List.length_nil]; omega) H3.out.bel.size ?_); intro v5 w5 ho5 hg5; have H5 : Hid (OnA w v5 (l ++ [((false, (a : Int) + (k : Int), S), .slice dq ds dm)]) w5) := H3.out.app hg5 ho5; clear ho5 hg5))
      go_roundw
      case rel => exact ⟨k + 1, _, HK.out, by go_num, by rw [List.map_append, HML.out, HS.out, HI.out]; rfl, H5.out⟩
      case measure => have := HK.out; simp [intOf]; omega
    · obtain rfl : k = 8 := by omega
      clear hk8 hk
      have H3 : Hid (OnA w (.slice vq lp vm) l (wr.alloc (.cells #[.bool true, .int .i64 0, .slice none 0 0] 47))) := HZ.out.next (below_alloc _ _)
      have HD3 : Hid (∀ y ∈ [((true, (0 : Int), ([] : List Nat)), Value.slice none 0 0)], DataO (wr.alloc (.cells #[.bool true, .int .i64 0, .slice none 0 0] 47)) w.heap.size y.2 y.1.2.2) := by
        intro y hy
        rw [List.mem_singleton.1 hy]
        exact ⟨World.ownsRow_nil _ _ _ _, fun c hc => by cases hc⟩
      have HC : Hid (∀ j u, (cellsT [((true, (0 : Int), ([] : List Nat)), Value.slice none 0 0)])[j]? = some u → (wr.alloc (.cells #[.bool true, .int .i64 0, .slice none 0 0] 47)).cell? ((⟨wr.heap.size, 0, none⟩ : Addr).add j) = some u) := one_act _ _ _ _ _ _ rfl
      go_wp2_with (at_builtin; go_loud ((refine wpList_append_acts _ rfl _ _ rfl w.heap.size (.slice vq lp vm) l [((true, (0 : Int), ([] : List Nat)), .slice none 0 0)] ⟨wr.heap.size, 0, none⟩ 1 1 rfl rfl rfl H3.out.own HD3.out HC.out (by have := HLK.out; simp only [List.length_cons, List.length_nil]; omega) H3.out.bel.size ?_); intro v5 w5 ho5 hg5; have H5 : Hid (OnA w v5 (l ++ [((true, (0 : Int), ([] : List Nat)), .slice none 0 0)]) w5) := H3.out.app hg5 ho5; clear ho5 hg5))
      go_ret
      exact ⟨_, _, rfl, H5.out, by rw [List.map_append, HML.out]; rfl⟩
end Go.Proofs.YtglcpfnpbcnejaaGreatDoor
namespace Go.Proofs.YtglcpfnpbcnejaaGreatDoor
open Go.RowKit Go.WideShapes Rm

theorem ok_fst {α : Type} {a b : α} {w w' : World} (e : Result.ok a w = Result.ok b w') : a = b := by
  injection e
theorem run_append_pcsX (w : World) (ty : TypeId) (base : Nat) (v : Value) (xs l : Pcs) (q : Option Addr) (c : Nat) (hown : POwn w base v xs) (hin : PcsIn w q l) (hp : q = none → c = 0) (hlen : xs.length + l.length ≤ 1000000) (hbase : base ≤ w.heap.size) :
    ∃ v' w', (Builtin.append_ #[49, 49] ty #[v, .slice q l.length c]).run Tryz.prog w = .ok v' w' ∧ POwn w' base v' (xs ++ l) ∧ w.grownBy w' v.ownBlock ∧ (v'.ownBlock = v.ownBlock ∨ v'.ownBlock = some w.heap.size) := by
  obtain ⟨i0, hi, hz0, hz1, hz2⟩ := info_parts' info_piece
  cases q with
  | none =>
    have h0 : l = [] := by
      cases l with
      | nil => rfl
      | cons y ys => obtain ⟨b, o, e, _⟩ := hin (by simp); cases e
    subst h0
    obtain rfl := hp rfl
    exact ⟨v, w, run_append_owned_none (P := Tryz.prog) w base 49 ty 53 i0 2 Tryz.underlying49 hi v xs.length (cellsQ xs) hown, by simpa using hown, ⟨rfl, rfl, rfl, Nat.le_refl _, fun _ _ _ => rfl⟩, .inl rfl⟩
  | some ad =>
    have hc := pcs_news hin rfl
    obtain ⟨v', w', hr, h2, h3, h4⟩ := run_append_own (P := Tryz.prog) w base 49 ty 53 i0 _ 2 16 Tryz.underlying49 hi hz0 hz1 hz2 rfl (by decide) v xs.length (cellsQ xs) hown ad l.length c (cellsQ l) (cellsQ_len l) hc (cellsQ_oneCell l) (by unfold maxLen; omega) (by omega) hbase
    refine ⟨v', w', hr, ?_, h3, ?_⟩
    · unfold POwn
      rw [cellsQ_app, List.length_append]
      exact h2
    rcases hown.2 with ⟨h0, hn0⟩ | ⟨g, cap, cur, hv, hbg, hg, hnc, hcm, hcs, htake⟩
    · subst h0
      by_cases hy : l.length = 0
      · left
        rw [h4.2 ⟨rfl, hy⟩]
      · right
        have hr2 := run_append_nil (P := Tryz.prog) w 49 ty 53 i0 _ Tryz.underlying49 hi hz0 ad l.length c (cellsQ l) (by rw [hz1, cellsQ_len]) hc (by omega) (by omega) (by rw [hz2]; omega)
        have e := hr.symm.trans hr2
        exact (congrArg Value.ownBlock (ok_fst e)).trans rfl
    · subst hv
      by_cases hroom : xs.length + l.length ≤ cap
      · left
        have hr2 := run_append_room (P := Tryz.prog) w 49 ty 53 i0 Tryz.underlying49 hi g xs.length cap cur hg ad l.length c (cellsQ l) (by rw [hz1, cellsQ_len]) hc (cellsQ_oneCell l) hroom (by rw [hz1, cellsQ_len, hcs]; omega)
        have e := hr.symm.trans hr2
        exact (congrArg Value.ownBlock (ok_fst e)).trans rfl
      · right
        have hr2 := run_append_grow (P := Tryz.prog) w 49 ty 53 i0 _ Tryz.underlying49 hi hz0 ⟨g, 0, none⟩ xs.length cap (cellsQ xs) (by rw [hz1, cellsQ_len]) (hown.cells (g := g) rfl) ad l.length c (cellsQ l) (by rw [hz1, cellsQ_len]) hc (by omega) (by omega) (growslice_fits (by omega) (by rw [hz2]; omega))
        have e := hr.symm.trans hr2
        exact (congrArg Value.ownBlock (ok_fst e)).trans rfl
theorem wpList_append_pcsX (w : World) {ops : Array Oper} {rest : List Oper} {o : Oper} {a : Act} {Q : Exit → Act → World → Prop} (hgd : o.guard = none) (s x : Operand)
    (ho : o.op = .call { callee := .builtin .append, args := #[s, x], argTypes := #[49, 49] }) (base : Nat) (v : Value) (xs l : Pcs) (q : Option Addr) (m c : Nat) (hs : a.eval s = v) (hx : a.eval x = .slice q m c) (hm : m = l.length)
    (hown : POwn w base v xs) (hin : PcsIn w q l) (hp : q = none → c = 0) (hlen : xs.length + l.length ≤ 1000000) (hbase : base ≤ w.heap.size)
    (h : ∀ v' w', POwn w' base v' (xs ++ l) → w.grownBy w' v.ownBlock → (v'.ownBlock = v.ownBlock ∨ v'.ownBlock = some w.heap.size) → wpList Tryz.prog ops Q rest (a.put o.dst v') w') : wpList Tryz.prog ops Q (o :: rest) a w := by
  subst hm
  refine wpList_plain hgd fun K hK => ?_
  obtain ⟨v', w', hr, h2, h3, h4⟩ := run_append_pcsX w o.type base v xs l q c hown hin hp hlen hbase
  unfold Oper.wp execOp
  simp only [ho, resolve, invoke, builtin, Sem.run_bind, Sem.run_pure, Result.andThen_ok, List.map_toArray, List.map_cons, List.map_nil, hs, hx, hr]
  exact hK _ _ (h v' w' h2 h3 h4)
theorem grown_below {w w' : World} (h : Below w.heap.size w w') (r : Option Nat) : w.grownBy w' r := ⟨h.os, h.tape, h.output, h.size, fun k hk _ => h.block k hk⟩
/-- The state of place: the sectors in use, the files that have theirs. -/
structure Plc (w : World) (base0 : Nat) (ub : Option Nat) (uv : Value) (U : Pcs) (ov : Value) (O : FPs) (wr : World) : Prop where
  used : POwn wr base0 uv U
  blk : uv.ownBlock = ub ∨ ∃ b, uv.ownBlock = some b ∧ w.heap.size ≤ b
  out : FMix wr w.heap.size w.heap.size ov O
  apart : ∀ x ∈ O, x.2.ownBlock = none ∨ x.2.ownBlock ≠ uv.ownBlock
  grown : w.grownBy wr ub
theorem Plc.next {w wr w' : World} {base0 : Nat} {ub : Option Nat} {uv ov : Value} {U : Pcs} {O : FPs} (h : Plc w base0 ub uv U ov O wr) (hb : Below wr.heap.size wr w') : Plc w base0 ub uv U ov O w' :=
  ⟨h.used.below hb, h.blk, h.out.below hb, h.apart, grown_trans h.grown (grown_below hb ub)⟩
theorem Plc.use {w w2 w3 : World} {base0 : Nat} {ub : Option Nat} {uv uv3 ov : Value} {U V : Pcs} {O : FPs} (h : Plc w base0 ub uv U ov O w2) (ho : POwn w3 base0 uv3 V) (hg : w2.grownBy w3 uv.ownBlock) (hw : uv3.ownBlock = uv.ownBlock ∨ uv3.ownBlock = some w2.heap.size) : Plc w base0 ub uv3 V ov O w3 := by
  refine ⟨ho, ?_, ⟨World.ownsRow.kept h.out.row hg (apart_own h.out.row h.used (by decide)), fun x hx => (h.out.pcs x hx).kept hg (h.apart x hx)⟩, fun x hx => ?_, ?_⟩
  · rcases hw with e | e
    · rw [e]; exact h.blk
    · exact .inr ⟨_, e, h.grown.size⟩
  · rcases hw with e | e
    · rw [e]; exact h.apart x hx
    · cases hk : x.2.ownBlock with
      | none => exact .inl rfl
      | some k =>
        refine .inr fun e2 => ?_
        have := ((h.out.pcs x hx).lt k hk).2
        rw [e] at e2
        have := Option.some.inj e2
        omega
  · refine ⟨hg.os.trans h.grown.os, hg.tape.trans h.grown.tape, hg.output.trans h.grown.output, Nat.le_trans h.grown.size hg.size, fun k hk hne => ?_⟩
    refine (hg.block k (Nat.lt_of_lt_of_le hk h.grown.size) (fun e => ?_)).trans (h.grown.block k hk hne)
    rcases h.blk with hb | ⟨b, hb, hlt⟩
    · exact hne (e.trans hb)
    · rw [hb] at e
      have := Option.some.inj e
      omega
theorem pv_apart {wA w2 : World} {base0 : Nat} {uv uv3 pv : Value} {U P : Pcs} (hU : POwn wA base0 uv U) (hP : POwn w2 wA.heap.size pv P) (hw : uv3.ownBlock = uv.ownBlock ∨ uv3.ownBlock = some w2.heap.size) : (pv.ownBlock = none ∨ pv.ownBlock ≠ uv.ownBlock) ∧ (pv.ownBlock = none ∨ pv.ownBlock ≠ uv3.ownBlock) := by
  cases hk : pv.ownBlock with
  | none => exact ⟨.inl rfl, .inl rfl⟩
  | some k =>
    have h1 := hP.lt k hk
    have h2 : some k ≠ uv.ownBlock := fun e => by have := (hU.lt k e.symm).2; omega
    refine ⟨.inr h2, .inr fun e => ?_⟩
    rcases hw with e2 | e2
    · exact h2 (e.trans e2)
    · rw [e2] at e
      have := Option.some.inj e
      omega
theorem Plc.push {w w4 w5 : World} {base0 : Nat} {ub : Option Nat} {uv ov ov5 : Value} {U : Pcs} {O : FPs} {x : FileV × Value} (h : Plc w base0 ub uv U ov O w4) (ho : FMix w5 w.heap.size w.heap.size ov5 (O ++ [x])) (hg : w4.grownBy w5 ov.ownBlock) (hx : x.2.ownBlock = none ∨ x.2.ownBlock ≠ uv.ownBlock) : Plc w base0 ub uv U ov5 (O ++ [x]) w5 := by
  refine ⟨h.used.kept hg (apart_own h.used h.out.row (by decide)), h.blk, ho, fun y hy => ?_, ?_⟩
  · rcases List.mem_append.1 hy with hy | hy
    · exact h.apart y hy
    · rw [List.mem_singleton.1 hy]; exact hx
  · refine ⟨hg.os.trans h.grown.os, hg.tape.trans h.grown.tape, hg.output.trans h.grown.output, Nat.le_trans h.grown.size hg.size, fun k hk hne => ?_⟩
    refine (hg.block k (Nat.lt_of_lt_of_le hk h.grown.size) (fun e => ?_)).trans (h.grown.block k hk hne)
    have := (World.ownsRow.lt h.out.row k e.symm).1
    omega
/-! ### with no program -/
def joinR (pre : List FileV) : Except Int (List FileV) → Except Int (List FileV)
  | .ok l => .ok (pre ++ l)
  | .error e => .error e
def csOf (l : List CV) : List (ByteArray × List Nat) := l.map fun c => (c.key, numsOf c.val)
theorem nums_len (s : ByteArray) : (numsOf s).length = s.size := by unfold numsOf; rw [List.length_map, Array.length_toList]; rfl
theorem csOf_drop {l : List CV} {k : Nat} (h : k < l.length) : (csOf l).drop k = ((l.getD k zeroCV).key, numsOf (l.getD k zeroCV).val) :: (csOf l).drop (k + 1) := by
  unfold csOf
  rw [← List.map_drop, ← List.map_drop, List.drop_eq_getElem_cons h, List.map_cons, List.getD_eq_getElem?_getD, List.getElem?_eq_getElem h]
  rfl
theorem place_big {count : Int} {U : Pcs} {l : List CV} {k : Nat} (h : k < l.length) (hb : 4096 < needsN ((l.getD k zeroCV).val.size : Nat)) : placeN count U ((csOf l).drop k) = .error 30 := by
  rw [csOf_drop h]
  unfold placeN
  rw [if_pos (by rw [nums_len]; exact hb)]
theorem place_err {count : Int} {U : Pcs} {l : List CV} {k : Nat} (h : k < l.length) (hb : ¬ 4096 < needsN ((l.getD k zeroCV).val.size : Nat)) (he : errT 80 count U (needsN ((l.getD k zeroCV).val.size : Nat)) ≠ 0) : placeN count U ((csOf l).drop k) = .error (errT 80 count U (needsN ((l.getD k zeroCV).val.size : Nat))) := by
  rw [csOf_drop h]
  unfold placeN
  rw [if_neg (by rw [nums_len]; exact hb), if_pos (by rw [nums_len]; exact he), nums_len]
theorem place_go {count : Int} {U : Pcs} {l : List CV} {k : Nat} (h : k < l.length) (hb : ¬ 4096 < needsN ((l.getD k zeroCV).val.size : Nat)) (he : errT 80 count U (needsN ((l.getD k zeroCV).val.size : Nat)) = 0) (pre : List FileV) :
    joinR pre (placeN count U ((csOf l).drop k)) = joinR (pre ++ [⟨(l.getD k zeroCV).key, ((l.getD k zeroCV).val.size : Nat), resT 80 count U (needsN ((l.getD k zeroCV).val.size : Nat))⟩]) (placeN count (U ++ resT 80 count U (needsN ((l.getD k zeroCV).val.size : Nat))) ((csOf l).drop (k + 1))) := by
  rw [csOf_drop h, placeN]
  rw [if_neg (by rw [nums_len]; exact hb), if_neg (by rw [nums_len]; exact fun h => h he)]
  simp only [nums_len]
  cases placeN count (U ++ resT 80 count U (needsN ((l.getD k zeroCV).val.size : Nat))) ((csOf l).drop (k + 1)) with
  | ok m => simp [joinR]
  | error e => rfl
theorem place_end {count : Int} {U : Pcs} {l : List CV} {k : Nat} (h : l.length ≤ k) : placeN count U ((csOf l).drop k) = .ok [] := by
  rw [List.drop_of_length_le (by unfold csOf; rw [List.length_map]; exact h)]
  rfl
/-- What place answers. -/
def PlaceP (w : World) (ub : Option Nat) (r : Except Int (List FileV)) (e : Ending) (w' : World) : Prop :=
  match r with
  | .ok l => ∃ ov O, e = .returned (.tuple #[ov, .nilIface]) ∧ O.map Prod.fst = l ∧ FMix w' w.heap.size w.heap.size ov O ∧ w.grownBy w' ub
  | .error n => ∃ ev, e = .returned (.tuple #[.slice none 0 0, ev]) ∧ Faults ev n ∧ w.grownBy w' ub
end Go.Proofs.YtglcpfnpbcnejaaGreatDoor
namespace Go.Proofs.YtglcpfnpbcnejaaGreatDoor
open Go.RowKit Go.WideShapes Rm

theorem blk_growp {w w' : World} {base B : Nat} {v : Value} {l : Pcs} {C : Array Value} (h : POwn w base v l) (hg : w.grownBy w' v.ownBlock) (hB : w.heap[B]? = some (.cells C 40 (0, 0))) : w'.heap[B]? = some (.cells C 40 (0, 0)) := by
  refine (hg.block _ (lt_heap hB) fun e => ?_).trans hB
  obtain ⟨C', h2⟩ := own_blk h e.symm
  rw [hB] at h2
  simp at h2
set_option maxRecDepth 8000 in
set_option maxHeartbeats 4000000 in
theorem place_any (count : Int) (uv : Value) (U0 : Pcs) (base0 : Nat) (q : Option Addr) (n c : Nat) (l : List CV) (w : World) (hu : POwn w base0 uv U0) (hw0 : Wf U0) (hb0 : base0 ≤ w.heap.size) (hq : CsIn w q l) (hqb : ∀ b o, q = some ⟨b, o, none⟩ → some b ≠ uv.ownBlock) (hn0 : n = l.length) (hn1 : n ≤ 1000) (hsz : ∀ x ∈ l, (x.val.size : Int) ≤ 9223372036854775000) (r : Except Int (List FileV)) (hr : placeN count U0 (csOf l) = r) :
    Calls Tryz.prog 70 #[.int .i64 count, uv, .slice q n c] w fun e w' => PlaceP w uv.ownBlock r e w' := by
  obtain ⟨ub, hub⟩ : ∃ ub, uv.ownBlock = ub := ⟨_, rfl⟩
  have HP0 : Hid (Plc w base0 ub uv U0 (.slice none 0 0) [] w) := ⟨hu, .inl hub, fmix_nil _ _ _, (fun x hx => by cases hx), grown_below (Below.refl _ _) _⟩
  obtain ⟨uq, um, rfl, _, _, _⟩ := hu.form
  have HR : Hid (joinR [] (placeN count U0 ((csOf l).drop 0)) = r) := by
    show _ = _
    rw [List.drop_zero, hr]
    cases r <;> rfl
  have HQ : Hid (CsIn w q l ∧ (∀ b o, q = some ⟨b, o, none⟩ → some b ≠ ub) ∧ n = l.length) := ⟨hq, by rw [← hub]; exact hqb, hn0⟩
  have HSZ : Hid (∀ k, k < l.length → ((l.getD k zeroCV).val.size : Int) ≤ 9223372036854775000) := by
    intro k hk
    refine hsz _ ?_
    rw [List.getD_eq_getElem?_getD, List.getElem?_eq_getElem hk]
    exact List.getElem_mem _
  have HW0 : Hid (Wf U0 ∧ base0 ≤ w.heap.size) := ⟨hw0, hb0⟩
  have hnI : (n : Int) ≤ 1000 := by omega
  rw [hub]
  clear hu hw0 hb0 hq hqb hn0 hsz hr hub
  obtain ⟨U0n, hU0n⟩ : ∃ m, U0.length = m := ⟨_, rfl⟩
  rw [hU0n] at HP0 ⊢
  clear hU0n
  go_enter Tryz.func70, Tryz.ntmps70
  go_wp2
  go_loopw [1, 8, 16] (fun u o i wr => ∃ (k : Nat) (U : Pcs) (O : FPs), k ≤ n ∧ i = .int .i64 (k : Int) ∧ Wf U ∧ O.length ≤ k ∧ joinR (O.map Prod.fst) (placeN count U ((csOf l).drop k)) = r ∧ Plc w base0 ub u U o O wr) (fun _ _ i _ => n - (intOf i).toNat)
  case atStart => exact ⟨0, U0, [], by omega, rfl, HW0.out.1, by simp, HR.out, HP0.out⟩
  case round =>
    obtain ⟨k, U, O, hk, rfl, hwf, hol, hj, hz⟩ := hrel
    clear HP0 HR
    obtain ⟨vq, vm, rfl, _, _, _⟩ := hz.used.form
    obtain ⟨oq, om, rfl, _, _, _⟩ := hz.out.form
    have HZ : Hid (Plc w base0 ub (.slice vq U.length vm) U (.slice oq O.length om) O wr) := hz
    have HJ : Hid (joinR (O.map Prod.fst) (placeN count U ((csOf l).drop k)) = r ∧ Wf U ∧ O.length ≤ k) := ⟨hj, hwf, hol⟩
    obtain ⟨ul, hul⟩ : ∃ m, U.length = m := ⟨_, rfl⟩
    obtain ⟨oll, holl⟩ : ∃ m, O.length = m := ⟨_, rfl⟩
    have HUL : Hid (U.length = ul ∧ O.length = oll) := ⟨hul, holl⟩
    rw [hul, holl] at HZ ⊢
    clear hz hj hwf hol hul holl
    by_cases hkl : k < n
    · have hkI : (k : Int) < (n : Int) := by omega
      have k0 : (0 : Int) ≤ (k : Int) := by omega
      have hkl2 : k < l.length := by have := HQ.out.2.2; omega
      have HKL : Hid (k < n) := hkl
      obtain ⟨b, o, rfl⟩ := HQ.out.1.addr (by omega)
      obtain ⟨y0, y1, y2⟩ := HQ.out.1.at hkl2
      have hkp : ∀ (a : Addr) (x : Value), a.block = b → w.cell? a = some x → wr.cell? a = some x := fun a x ha h => by
        rw [World.cell?_of_block (HZ.out.grown.block a.block (World.block_lt_of_cell? _ _ h) (by rw [ha]; exact HQ.out.2.1 b o rfl))]
        exact h
      have z0 := hkp _ _ rfl y0
      have z1 := hkp _ _ rfl y1
      have z2 := hkp _ _ rfl y2
      have hsz := HSZ.out k hkl2
      have HBIG : Hid (4096 < needsN ((l.getD k zeroCV).val.size : Nat) → r = .error 30) := fun h => by rw [← HJ.out.1, place_big hkl2 h]; rfl
      have HERR : Hid (¬ 4096 < needsN ((l.getD k zeroCV).val.size : Nat) → errT 80 count U (needsN ((l.getD k zeroCV).val.size : Nat)) ≠ 0 → r = .error (errT 80 count U (needsN ((l.getD k zeroCV).val.size : Nat)))) := fun h1 h2 => by rw [← HJ.out.1, place_err hkl2 h1 h2]; rfl
      have HGO : Hid (¬ 4096 < needsN ((l.getD k zeroCV).val.size : Nat) → errT 80 count U (needsN ((l.getD k zeroCV).val.size : Nat)) = 0 → joinR (O.map Prod.fst ++ [⟨(l.getD k zeroCV).key, ((l.getD k zeroCV).val.size : Nat), resT 80 count U (needsN ((l.getD k zeroCV).val.size : Nat))⟩]) (placeN count (U ++ resT 80 count U (needsN ((l.getD k zeroCV).val.size : Nat))) ((csOf l).drop (k + 1))) = r) := fun h1 h2 => by rw [← HJ.out.1, place_go hkl2 h1 h2]
      obtain ⟨⟨ck, cv, cg⟩, hc⟩ : ∃ f, l.getD k zeroCV = f := ⟨_, rfl⟩
      rw [hc] at z0 z1 z2 hsz HBIG HERR HGO
      simp only at z0 z1 z2 hsz HBIG HERR HGO
      clear hkp y0 y1 y2 hkl hkl2 hk hc
      obtain ⟨sz, hszz⟩ : ∃ s, cv.size = s := ⟨_, rfl⟩
      have HSZZ : Hid (cv.size = sz) := hszz
      rw [hszz] at hsz HBIG HERR HGO
      have hnd := needs_any (sz : Int) (wr.alloc (.cells #[.string ck, .string cv, .bool cg] 40)) ⟨by omega, hsz⟩
      obtain ⟨N, hN⟩ : ∃ N, needsN (sz : Int) = N := ⟨_, rfl⟩
      rw [hN] at hnd HBIG HERR HGO
      have hNb : 0 ≤ N ∧ N ≤ 9223372036854775000 := by unfold needsN at hN; omega
      clear hN
      have HA : Hid (Plc w base0 ub (.slice vq ul vm) U (.slice oq oll om) O (wr.alloc (.cells #[.string ck, .string cv, .bool cg] 40))) := HZ.out.next (below_alloc _ _)
      go_wp2_with fail
      refine hnd.mono ?_
      rintro e w1 ⟨rfl, rfl⟩
      clear hnd
      by_cases hbig : 4096 < N
      · have HE : Hid (r = .error 30) := HBIG.out hbig
        clear HBIG HERR HGO
        go_wp2
        go_quiet (fail)
        go_wp2
        go_ret2
        rw [HE.out]
        exact ⟨_, rfl, Faults.one _ _, grown_trans HA.out.grown (Rm.grown_drew _ _ _)⟩
      · have hbig' : N ≤ 4096 := by omega
        have htk := Rm.take_any 80 count _ U N _ (HA.out.used.pin HJ.out.2.1)
        clear hbig HBIG
        obtain ⟨E, hE⟩ : ∃ E, errT 80 count U N = E := ⟨_, rfl⟩
        obtain ⟨P, hP⟩ : ∃ P, resT 80 count U N = P := ⟨_, rfl⟩
        have HWP : Hid (Wf P) := by rw [← hP]; exact wf_resT _ _ _ _
        have HPL : Hid (E = 0 → P.length ≤ 4096 ∧ U.length ≤ 4096) := fun h => by
          rw [h] at hE
          obtain ⟨h1, h2, _⟩ := errT_zero hE
          rw [← hP, resT_ok hE]
          have := gotF_len 80 count U N.toNat
          exact ⟨by omega, (errF_zero h2).2.1⟩
        rw [hE, hP] at htk
        rw [hE] at HERR
        rw [hE, hP] at HGO
        clear hE hP
        go_wp2_with fail
        refine htk.mono ?_
        rintro e w2 ⟨pq, pm, rfl, hpo, hb2⟩
        have H2 : Hid (Plc w base0 ub (.slice vq ul vm) U (.slice oq oll om) O w2) := HA.out.next hb2
        have hbk : w2.heap[wr.heap.size]? = some (.cells #[.string ck, .string cv, .bool cg] 40 (0, 0)) := (hb2.block _ (by simp)).trans (heap_alloc_new _ _)
        have HBK : Hid (w2.heap[wr.heap.size]? = some (.cells #[.string ck, .string cv, .bool cg] 40 (0, 0))) := hbk
        obtain ⟨x0, x1, x2⟩ := three_cells hbk
        have HPO : Hid (POwn w2 (wr.alloc (.cells #[.string ck, .string cv, .bool cg] 40)).heap.size (.slice pq P.length pm) P) := hpo
        have HPB : Hid (POwn w2 w.heap.size (.slice pq P.length pm) P) := hpo.mono (by have := HA.out.grown.size; exact this)
        obtain ⟨pl, hpl⟩ : ∃ m, P.length = m := ⟨_, rfl⟩
        have HPLN : Hid (P.length = pl) := hpl
        rw [hpl] at HPO HPB ⊢
        clear hbk htk hb2 hpo hpl
        by_cases hE0 : E = 0
        · subst hE0
          have HG1 : Hid _ := HGO.out (by omega) rfl
          have HPL1 : Hid (P.length ≤ 4096 ∧ U.length ≤ 4096) := HPL.out rfl
          clear HERR HGO HPL
          go_wp2_with (at_builtin; first
            | ((refine wpList_append_pcsX _ rfl _ _ rfl base0 (.slice vq ul vm) U P pq pl pm rfl rfl HPLN.out.symm H2.out.used HPB.out.pcs (by obtain ⟨_, _, e, _, _, h⟩ := HPB.out.form; cases e; exact h) (by have := HPL1.out; omega) (by have := H2.out.grown.size; have := HW0.out.2; omega) ?_); intro v3 w3 ho3 hg3 hw3; have H3 : Hid (Plc w base0 ub v3 (U ++ P) (.slice oq oll om) O w3 ∧ (POwn w3 w.heap.size (.slice pq pl pm) P ∧ ((Value.slice pq pl pm).ownBlock = none ∨ (Value.slice pq pl pm).ownBlock ≠ v3.ownBlock)) ∧ w3.heap[wr.heap.size]? = some (.cells #[.string ck, .string cv, .bool cg] 40 (0, 0))) := ⟨H2.out.use ho3 hg3 hw3, ⟨HPB.out.kept hg3 (pv_apart HA.out.used HPO.out hw3).1, (pv_apart HA.out.used HPO.out hw3).2⟩, blk_growp H2.out.used hg3 HBK.out⟩; obtain ⟨f0, f1, f2⟩ := three_cells H3.out.2.2; clear ho3 hg3 hw3; have H4 : Hid (Plc w base0 ub v3 (U ++ P) (.slice oq oll om) O (w3.alloc (.cells #[.string ck, .int .i64 (sz : Int), .slice pq pl pm] 51))) := H3.out.1.next (below_alloc _ _); have HP4 : Hid (POwn (w3.alloc (.cells #[.string ck, .int .i64 (sz : Int), .slice pq pl pm] 51)) w.heap.size (.slice pq pl pm) P) := H3.out.2.1.1.below (below_alloc _ _); have HC1 : Hid _ := new3 w3 (.string ck) (.int .i64 (sz : Int)) (.slice pq pl pm) 51 w3.heap.size rfl)
            | ((refine wpList_append_mix _ rfl _ _ rfl w.heap.size w.heap.size (.slice oq oll om) O (⟨ck, (sz : Int), P⟩, .slice pq pl pm) ⟨w3.heap.size, 0, none⟩ 1 rfl rfl H4.out.out rfl HP4.out HC1.out.1 HC1.out.2.1 HC1.out.2.2 (by have := HJ.out.2.2; have := HKL.out; omega) H4.out.grown.size ?_); intro v5 w5 ho5 hg5; have H5 : Hid (Plc w base0 ub v3 (U ++ P) v5 (O ++ [(⟨ck, (sz : Int), P⟩, .slice pq pl pm)]) w5) := H4.out.push ho5 hg5 H3.out.2.1.2; clear ho5 hg5))
          go_roundw
          case rel => exact ⟨k + 1, U ++ P, _, HKL.out, by go_num, fun y hy => by rcases List.mem_append.1 hy with h | h; exact HJ.out.2.1 y h; exact HWP.out y h, by have := HJ.out.2.2; simp only [List.length_append, List.length_cons, List.length_nil]; omega, by rw [List.map_append]; exact HG1.out, H5.out⟩
          case measure => have := HKL.out; simp [intOf]; omega
        · have hEn : (E != 0) = true := by simpa using hE0
          have hEn' : (E == 0) = false := by simpa using hE0
          have HE : Hid (r = .error E) := HERR.out (by omega) hE0
          clear HERR HGO HPL hE0
          go_wp2
          go_quiet (fail)
          go_wp2
          go_ret2
          rw [HE.out]
          exact ⟨_, rfl, Faults.one _ _, grown_trans H2.out.grown (Rm.grown_drew _ _ _)⟩
    · have hkI : (n : Int) ≤ (k : Int) := by omega
      have HM : Hid (r = .ok (O.map Prod.fst)) := by
        show r = _
        rw [← HJ.out.1, place_end (by have := HQ.out.2.2; omega)]
        simp [joinR]
      clear hkl
      go_wp2
      go_ret2
      rw [HM.out]
      exact ⟨_, O, rfl, rfl, HZ.out.out, HZ.out.grown⟩
end Go.Proofs.YtglcpfnpbcnejaaGreatDoor
