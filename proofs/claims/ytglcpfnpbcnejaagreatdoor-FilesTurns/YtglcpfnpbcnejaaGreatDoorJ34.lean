/-
  Contracts of the document's own answers bytes and May; rows of bytes and of writes in memory of the call's own, however long.
-/
import Derived.Test.YtglcpfnpbcnejaaGreatDoorJ33
import Derived.Laws.AppendOwnNone
namespace Go.Proofs.YtglcpfnpbcnejaaGreatDoor
set_option maxRecDepth 8000
open Go.RowKit Go.WideShapes

end Go.Proofs.YtglcpfnpbcnejaaGreatDoor
namespace Go.Proofs.YtglcpfnpbcnejaaGreatDoor
set_option maxRecDepth 8000
open Go.RowKit Go.WideShapes

/-- What Do comes to, on whatever disk. -/
noncomputable def doAny (count : Int) (data : List Nat) (ws : Puts) (l : Acts) : Except Int (List Nat × Puts) := if errC count data ws = 0 then doN count (data, ws) l else .error 20
theorem doAny_ok {count : Int} {data : List Nat} {ws : Puts} (l : Acts) (h : Okay count data ws) : doAny count data ws l = doN count (data, ws) l := by simp [doAny, errC_ok h]
theorem doAny_bad {count : Int} {data : List Nat} {ws : Puts} (l : Acts) (h : ¬ Okay count data ws) : doAny count data ws l = .error 20 := by simp [doAny, errC_bad h]
def resE : Except Int (List Nat × Puts) → Int
  | .ok _ => 0
  | .error c => c
def resC (count : Int) : Except Int (List Nat × Puts) → Int
  | .ok _ => count
  | .error _ => 0
def resD : Except Int (List Nat × Puts) → List Nat
  | .ok s => s.1
  | .error _ => []
def resW : Except Int (List Nat × Puts) → Puts
  | .ok s => s.2
  | .error _ => []
theorem zero_in (w : World) : DiskIn w zeroDisk 0 [] [] :=
  ⟨⟨_, none, 0, rfl, ⟨none, 0, rfl, ⟨fun h => absurd h (by simp), by simp⟩, by simp, by unfold maxLen; omega, fun _ => rfl⟩, fun h => absurd h (by simp), by simp, by unfold maxLen; omega, fun _ => rfl⟩, by decide, by simp⟩
/-- A disk that reads so wherever the blocks from base on, that are there, are as they are. -/
def DiskF (base : Nat) (w : World) (v : Value) (count : Int) (data : List Nat) (ws : Puts) : Prop := ∀ w2 : World, (∀ k : Nat, base ≤ k → k < w.heap.size → w2.heap[k]? = w.heap[k]?) → DiskIn w2 v count data ws
theorem DiskF.self {base : Nat} {w : World} {v : Value} {count : Int} {data : List Nat} {ws : Puts} (h : DiskF base w v count data ws) : DiskIn w v count data ws := h w (fun _ _ _ => rfl)
theorem DiskF.below {base : Nat} {w w' : World} {v : Value} {count : Int} {data : List Nat} {ws : Puts} (h : DiskF base w v count data ws) (hb : Below w.heap.size w w') : DiskIn w' v count data ws := h w' (fun k _ hk => hb.block k hk)
theorem DiskF.set3 {base B : Nat} {w : World} {v : Value} {count : Int} {data : List Nat} {ws : Puts} (h : DiskF base w v count data ws) (hB : B < base) (a b c : Value) : DiskIn (((w.setCell ⟨B, 0, none⟩ a).setCell ⟨B, 1, none⟩ b).setCell ⟨B, 2, none⟩ c) v count data ws :=
  h _ (fun k hk _ => set3_other w B k a b c (by omega))
theorem PutsOwn.keepB {w w' : World} {base : Nat} {v : Value} {ws : Puts} {gs : List Nat} (h : PutsOwn w base v ws gs) (hk : ∀ k, base ≤ k → k < w.heap.size → w'.heap[k]? = w.heap[k]?) : PutsOwn w' base v ws gs :=
  h.keep (fun g _ hv e => hk g (h.row.lt g hv).1 (lt_heap e)) (fun i hi => hk _ (h.rows i hi).1 (lt_heap (h.rows i hi).2))
theorem DiskNew.fresh {w : World} {base : Nat} {v : Value} {count : Int} {data : List Nat} {ws : Puts} (h : DiskNew w base v count data ws) (ho : Okay count data ws) : DiskF base w v count data ws := by
  intro w2 hk
  obtain ⟨gd, q, m, gs, h1, h2, h3, h4, h5⟩ := h.lies
  have : DiskNew w2 base v count data ws := ⟨⟨gd, q, m, gs, h1, h2, (hk gd h2 (lt_heap h3)).trans h3, h4.keepB hk, h5⟩, h.bytes⟩
  exact this.toIn ho
theorem do_all (v : Value) (count : Int) (data : List Nat) (ws : Puts) (w : World) (hd : DiskIn w v count data ws) (q : Option Addr) (n m : Nat) (l : Acts) (hn : n = l.length) (hl : ActsIn w q l) (hll : l.length ≤ 9223372036854775807) (r : Except Int (List Nat × Puts)) (hr : doAny count data ws l = r) :
    Calls Tryz.prog 15 #[v, .slice q n m] w fun e w' => (∃ v', e = .returned (.tuple #[v', .int .i64 (resE r)]) ∧ DiskF w.heap.size w' v' (resC count r) (resD r) (resW r)) ∧ Below w.heap.size w w' := by
  subst hn
  subst hr
  by_cases ho : Okay count data ws
  · rw [doAny_ok l ho]
    refine (do_ok v count data ws w hd ho q m l hl hll).mono ?_
    rintro e w' ⟨hp, hb⟩
    refine ⟨?_, hb⟩
    generalize hr : doN count (data, ws) l = r at *
    cases hp with
    | err c => exact ⟨_, rfl, fun w2 _ => zero_in w2⟩
    | ok d2 w2 v2 _ hnew => exact ⟨_, rfl, hnew.fresh (okay_do l (s := (data, ws)) (s' := (d2, w2)) ho hr)⟩
  · rw [doAny_bad l ho]
    refine (do_bad v _ count data ws w hd ho).mono ?_
    rintro e w' ⟨rfl, hb⟩
    exact ⟨⟨_, rfl, fun w2 _ => zero_in w2⟩, hb⟩
end Go.Proofs.YtglcpfnpbcnejaaGreatDoor
namespace Go.Proofs.YtglcpfnpbcnejaaGreatDoor
open Go.RowKit Go.WideShapes Rm

theorem DiskF.to {base base' : Nat} {w w' : World} {v : Value} {count : Int} {data : List Nat} {ws : Puts} (h : DiskF base w v count data ws) (hb : base' ≤ base) (hs : w'.heap.size = w.heap.size) (hk : ∀ k : Nat, base ≤ k → k < w.heap.size → w'.heap[k]? = w.heap[k]?) : DiskF base' w' v count data ws :=
  fun w2 h2 => h w2 (fun k k1 k2 => (h2 k (by omega) (by omega)).trans (hk k k1 k2))
theorem below_setR {base B : Nat} {w0 w : World} (i : Nat) (v : Value) (h : Below base w0 w) (hB : base ≤ B) : Below base w0 (w.setCell ⟨B, i, none⟩ v) := h.setCell (p := ⟨B, i, none⟩) hB v
theorem set_keep {w : World} {B i k : Nat} {v : Value} (h : k ≠ B) : (w.setCell ⟨B, i, none⟩ v).heap[k]? = w.heap[k]? := heap_setCell_other _ ⟨B, i, none⟩ k _ h
theorem cells3f {w : World} {g : Nat} {a b c : Value} {t : TypeId} (h : w.heap[g]? = some (.cells #[a, b, c] t (0, 0))) : (w.cell? ⟨g, 0, none⟩ = some a ∧ w.cell? ⟨g, 1, none⟩ = some b ∧ w.cell? ⟨g, 2, none⟩ = some c) ∧ w.frozen? ⟨g, 0, none⟩ = false ∧ w.frozen? ⟨g, 1, none⟩ = false ∧ w.frozen? ⟨g, 2, none⟩ = false :=
  ⟨three_cells h, by simp only [World.frozen?, h]; rfl, by simp only [World.frozen?, h]; rfl, by simp only [World.frozen?, h]; rfl⟩
end Go.Proofs.YtglcpfnpbcnejaaGreatDoor
namespace Go.Proofs.YtglcpfnpbcnejaaGreatDoor
set_option maxRecDepth 8000
open Go.RowKit Go.WideShapes

/-- A row of bytes of the call's own: nil, or a row with room perhaps. -/
structure RowG (w : World) (base : Nat) (v : Value) (xs : List Nat) : Prop where
  own : w.ownsRow base 5 1 v xs.length (Bs xs)
  bytes : ∀ c ∈ xs, c < 256
theorem RowG.form {w : World} {base : Nat} {v : Value} {xs : List Nat} (h : RowG w base v xs) : ∃ p c, v = .slice p xs.length c ∧ BIn w p xs ∧ xs.length ≤ c ∧ c ≤ maxLen ∧ (p = none → c = 0) := by
  rcases h.own.2 with ⟨hv, hn⟩ | ⟨g, cap, cur, hv, hb, hg, hle, hmax, hsz, htk⟩
  · exact ⟨none, 0, by rw [hv, hn], ⟨fun h => by omega, h.bytes⟩, by omega, by unfold maxLen; omega, fun _ => rfl⟩
  · subst hv
    refine ⟨_, cap, rfl, ⟨fun _ => ⟨g, 0, rfl, fun i hi => ?_⟩, h.bytes⟩, hle, hmax, fun h => by cases h⟩
    rw [Nat.zero_add, h.own.cellAt i (by omega)]
    simp [Bs, List.getD, List.getElem?_eq_getElem hi]
theorem RowG.row {w : World} {base : Nat} {v : Value} {xs : List Nat} (h : RowG w base v xs) : Row w v xs := by
  obtain ⟨p, c, h1, h2, h3, h4, h5⟩ := h.form
  exact ⟨p, c, h1, h2, h3, h4, h5⟩
theorem RowG.keepB {w w' : World} {base : Nat} {v : Value} {xs : List Nat} (h : RowG w base v xs) (hk : ∀ k cur, base ≤ k → w.heap[k]? = some (.cells cur 5 (0, 0)) → w'.heap[k]? = w.heap[k]?) : RowG w' base v xs := by
  refine ⟨⟨h.own.1, ?_⟩, h.bytes⟩
  rcases h.own.2 with h' | ⟨g, cap, cur, h1, h2, h3, h4⟩
  · exact .inl h'
  · exact .inr ⟨g, cap, cur, h1, h2, (hk g cur h2 h3).trans h3, h4⟩
theorem RowG.below {w w' : World} {base : Nat} {v : Value} {xs : List Nat} (h : RowG w base v xs) (hb : Below w.heap.size w w') : RowG w' base v xs := h.keepB fun k _ _ e => hb.block k (lt_heap e)
theorem RowG.mono {w : World} {base base' : Nat} {v : Value} {xs : List Nat} (h : RowG w base v xs) (hb : base' ≤ base) : RowG w base' v xs := by
  refine ⟨⟨h.own.1, ?_⟩, h.bytes⟩
  rcases h.own.2 with h' | ⟨g, cap, cur, h1, h2, h3⟩
  · exact .inl h'
  · exact .inr ⟨g, cap, cur, h1, Nat.le_trans hb h2, h3⟩

theorem wpList_append_row (w : World) {ops : Array Oper} {rest : List Oper} {o : Oper} {a : Act} {Q : Exit → Act → World → Prop} (hgd : o.guard = none) (s x : Operand)
    (ho : o.op = .call { callee := .builtin .append, args := #[s, x], argTypes := #[22, 22] }) (base : Nat) (v : Value) (xs ys : List Nat) (p : Option Addr) (m c : Nat) (hs : a.eval s = v) (hx : a.eval x = .slice p m c) (hm : m = ys.length)
    (hown : w.ownsRow base 5 1 v xs.length (Bs xs)) (hin : BIn w p ys) (hp : p = none → c = 0) (hlen : xs.length + ys.length ≤ 140737488355328) (hbase : base ≤ w.heap.size)
    (h : ∀ v' w', w'.ownsRow base 5 1 v' (xs ++ ys).length (Bs (xs ++ ys)) → w.grownBy w' v.ownBlock → wpList Tryz.prog ops Q rest (a.put o.dst v') w') : wpList Tryz.prog ops Q (o :: rest) a w := by
  subst hm
  refine wpList_plain hgd fun K hK => ?_
  obtain ⟨i0, hi, hz0, hz1, hz2⟩ := info_parts info_u8
  obtain ⟨v', w', hr, h2, h3⟩ := run_append_row (P := Tryz.prog) (tb := 22) (eb := 5) Tryz.underlying22 hi hz0 hz1 hz2 base o.type v xs ys p c hown hin hp hlen hbase
  unfold Oper.wp execOp
  simp only [ho, resolve, invoke, builtin, Sem.run_bind, Sem.run_pure, Result.andThen_ok, List.map_toArray, List.map_cons, List.map_nil, hs, hx, hr]
  exact hK _ _ (h v' w' h2 h3)
set_option maxHeartbeats 400000 in
theorem rbytes_any (p : Option Addr) (c n : Nat) (xs : List Nat) (w : World) (hn : n = xs.length) (hb : BIn w p xs) (hp : p = none → c = 0) (hl : xs.length ≤ 140737488355328) :
    Calls Tryz.prog 45 #[.slice p n c] w fun e w' => ∃ v, e = .returned v ∧ RowG w' w.heap.size v xs ∧ Below w.heap.size w w' := by
  have HB : Hid (∀ c ∈ xs, c < 256) := hb.2
  go_enter Tryz.func45, Tryz.ntmps45
  go_wp2_with (at_builtin; refine wpList_append_row _ rfl _ _ rfl w.heap.size (.slice none 0 0) [] xs p n c rfl rfl hn (World.ownsRow_nil _ _ _ _) hb hp (by simpa using hl) (Nat.le_refl _) ?_)
  intro v' w' hown hgrow
  have hb1 : Below w.heap.size w w' := (Below.refl _ _).grown hgrow (Nat.le_refl _) (fun k hk => by simp [Value.ownBlock] at hk)
  have HO : Hid (w'.ownsRow w.heap.size 5 1 v' xs.length (Bs xs)) := hown
  clear hb hown hgrow
  go_wp2
  go_ret
  exact ⟨_, rfl, ⟨HO.out, HB.out⟩, hb1⟩

set_option maxRecDepth 4000 in
set_option maxHeartbeats 2000000 in
theorem may_any (v : Value) (count : Int) (data : List Nat) (ws : Puts) (w : World) (hd : DiskIn w v count data ws) (b : Bool) (hbo : b = true ↔ Okay count data ws) :
    Calls Tryz.prog 116 #[v] w fun e w' => e = .returned (.bool b) ∧ Below w.heap.size w w' := by
  obtain ⟨p, c, q, m, rfl, hb, hc, hcm, hp, hq, hm, hmm, hqn⟩ := hd.parts
  have hcount := i64_bounds hd.count_wf
  have HBO : Hid _ := hbo
  have hwf := hd.puts_wf
  have HWF : Hid (∀ y ∈ ws, (Lit.int .i64 y.1).wf = true) := hwf
  clear hd hb hp hqn hbo hwf
  unfold maxLen at hcm hmm
  have hno : ¬ Okay count data ws → b = false := fun h => by
    cases b with
    | false => rfl
    | true => exact absurd (HBO.out.1 rfl) h
  have HNO : Hid _ := hno
  clear hno
  by_cases h1 : 1 ≤ count
  · by_cases h1' : count ≤ 4096
    · by_cases h2 : (data.length : Int) = count * 128
      · by_cases h3 : ws.length ≤ 4096
        · have h2b : ((data.length : Int) != count * 128) = false := by simpa using h2
          have H2 : Hid ((data.length : Int) = count * 128) := h2
          clear h2
          go_enter Tryz.func116, Tryz.ntmps116
          go_wp2
          go_loopw [3] (fun i wr => ∃ k : Nat, k ≤ ws.length ∧ i = .int .i64 k ∧ Hid (GoodK count ws k) ∧ Below (w.heap.size + 1) (w.alloc (.cells #[.int .i64 count, .slice p data.length c, .slice q ws.length m] 25)) wr) (fun i _ => ws.length - (intOf i).toNat)
          case atStart => exact ⟨0, by omega, rfl, fun i hi => absurd hi (by omega), Below.refl _ _⟩
          case round =>
            obtain ⟨k, hk, rfl, HG, hbel⟩ := hrel
            obtain ⟨hc0, hc1, hc2⟩ := box_cells hbel
            have hsz := box_size hbel
            by_cases hkl : k < ws.length
            · obtain ⟨b', o, rfl⟩ := hq.addr (by omega)
              obtain ⟨e1, pk, ck, e2, f1, f2⟩ := (hq.below (box_below hbel)).at' hkl
              clear hq
              have HS := GoodK.step (k := k) HG.out
              have HE := GoodK.bad (data := data) (k := k) (count := count) hkl
              have hsw := i64_bounds (HWF.out _ (getD_mem hkl))
              generalize ws.getD k (0, []) = y at *
              obtain ⟨s, xs⟩ := y
              have HS' : Hid _ := HS
              have HE' : Hid _ := HE
              clear HS HE
              simp only at e1 e2 f1 hsw
              by_cases g1 : 0 ≤ s
              · by_cases g1' : s < count
                · by_cases g2 : xs.length = 128
                  · have HG2 : Hid (GoodK count ws (k + 1)) := HS'.out ⟨g1, g1'⟩ g2
                    go_wp2
                    go_roundw
                    case rel => exact ⟨k + 1, by omega, by go_num, HG2, hbel.alloc (by omega) _⟩
                    case measure => simp [intOf]; omega
                  · have hf := HNO.out (HE'.out (fun h => g2 h.2))
                    subst hf
                    have hne : ((xs.length : Int) != 128) = true := by simp; omega
                    go_wp2
                    go_ret
                    exact ⟨rfl, box_below (hbel.alloc (by omega) _)⟩
                · have hf := HNO.out (HE'.out (fun h => g1' h.1.2))
                  subst hf
                  go_wp2
                  go_ret
                  exact ⟨rfl, box_below (hbel.alloc (by omega) _)⟩
              · have hf := HNO.out (HE'.out (fun h => g1 h.1.1))
                subst hf
                go_wp2
                go_ret
                exact ⟨rfl, box_below (hbel.alloc (by omega) _)⟩
            · obtain rfl : k = ws.length := by omega
              have ht : b = true := HBO.out.2 (GoodK.okay HG.out h1 h1' H2.out h3)
              subst ht
              clear HG
              go_wp2
              go_ret
              exact ⟨rfl, box_below hbel⟩
        · have hf := HNO.out (fun h => h3 h.few)
          subst hf
          have h2b : ((data.length : Int) != count * 128) = false := by simpa using h2
          clear h2
          go_enter Tryz.func116, Tryz.ntmps116
          go_wp2
          go_ret
          exact ⟨rfl, below_alloc _ _⟩
      · have hf := HNO.out (fun h => h2 h.len)
        subst hf
        have hne : ((data.length : Int) != count * 128) = true := by simpa using h2
        clear h2
        go_enter Tryz.func116, Tryz.ntmps116
        go_wp2
        go_ret
        exact ⟨rfl, below_alloc _ _⟩
    · have hf := HNO.out (fun h => h1' h.hi)
      subst hf
      go_enter Tryz.func116, Tryz.ntmps116
      go_wp2
      go_ret
      exact ⟨rfl, below_alloc _ _⟩
  · have hf := HNO.out (fun h => h1 h.lo)
    subst hf
    go_enter Tryz.func116, Tryz.ntmps116
    go_wp2
    go_ret
    exact ⟨rfl, below_alloc _ _⟩
end Go.Proofs.YtglcpfnpbcnejaaGreatDoor
