/-
  Contract of the document's own answer Twin: a disk in new memory.
-/
import Derived.Test.YthifpelappedcaaGreatDoorJ11
import Derived.Deep.QuietTactic
import Derived.BigQuiet
import Derived.Laws.AppendOwnNone
namespace Go.Proofs.YthifpelappedcaaGreatDoor
set_option maxRecDepth 8000
open Go.RowKit Go.WideShapes

theorem conv_bytes {w : World} {p : Option Addr} {xs : List Nat} (h : BIn w p xs) (c : Nat) : (convert 22 9 (.slice p xs.length c)).run Tryz.prog w = .ok (.string (strOf xs)) w :=
  bin_conv Tryz.underlying22 Tryz.underlying5 Tryz.underlying9 h rfl c
theorem str_eq {xs ys : List Nat} (hx : ∀ c ∈ xs, c < 256) (hy : ∀ c ∈ ys, c < 256) : ((strOf xs).toList == (strOf ys).toList) = decide (xs = ys) := by
  rw [ByteArray.toList_eq, ByteArray.toList_eq, Bool.eq_iff_iff]
  simp only [decide_eq_true_eq, beq_iff_eq]
  exact strOf_eq hx hy
theorem below_drewND {B : Nat} {a w : World} (h : Below B a w) (n : Nat) : Below B a (w.drewN n) := ⟨h.os, h.tape, h.output, h.size, h.block⟩
/-- Are two disks the same? -/
def SameD (c1 c2 : Int) (d1 d2 : List Nat) (w1 w2 : Puts) : Prop := c1 = c2 ∧ d1 = d2 ∧ w1 = w2
theorem same_step {w1 w2 : Puts} {k : Nat} (h1 : k < w1.length) (h2 : k < w2.length) (h : w1.take k = w2.take k) (he : w1.getD k (0, []) = w2.getD k (0, [])) : w1.take (k + 1) = w2.take (k + 1) := by
  rw [take_getD h1, take_getD h2, h, he]
theorem same_not {w1 w2 : Puts} {k : Nat} (he : w1.getD k (0, []) ≠ w2.getD k (0, [])) : w1 ≠ w2 := fun h => he (by rw [h])
theorem same_all {w1 w2 : Puts} (hl : w1.length = w2.length) (h : w1.take w1.length = w2.take w1.length) : w1 = w2 := by
  rw [List.take_length, hl, List.take_length] at h; exact h

end Go.Proofs.YthifpelappedcaaGreatDoor
namespace Go.Proofs.YthifpelappedcaaGreatDoor
set_option maxRecDepth 8000
open Go.RowKit Go.WideShapes

def onesK (x k : Nat) : List Nat := List.replicate k x ++ List.replicate (128 - k) 0
theorem onesK_len (x k : Nat) (h : k ≤ 128) : (onesK x k).length = 128 := by simp [onesK]; omega
theorem onesK_step (x k : Nat) (h : k < 128) : (onesK x k).set k x = onesK x (k + 1) := by
  unfold onesK
  rw [List.set_append_right _ _ (by simp), List.length_replicate, Nat.sub_self, show 128 - k = (128 - (k + 1)) + 1 from by omega, List.replicate_succ, List.set_cons_zero, List.replicate_succ', List.append_assoc]
  rfl
theorem Bs_set (xs : List Nat) (k x : Nat) : (Bs xs).toArray.setIfInBounds k (.int .u8 x) = (Bs (xs.set k x)).toArray := by
  simp [Bs, List.map_set]

/-- Is a disk larger than the statements go through? -/
def largeN (count : Int) (data : List Nat) (ws : Puts) : Prop := (40000 < data.length ∧ 0 < count ∧ count ≤ 4096) ∨ 600000 < data.length ∨ (300 < ws.length ∧ ws.length < 4090) ∨ 4200 < ws.length
instance (count : Int) (data : List Nat) (ws : Puts) : Decidable (largeN count data ws) := by unfold largeN; infer_instance
end Go.Proofs.YthifpelappedcaaGreatDoor
namespace Go.Proofs.YthifpelappedcaaGreatDoor
set_option maxRecDepth 8000
open Go.RowKit Go.WideShapes
attribute [local go_sem ↓] Go.wp_at_zero Go.wp_at_succ

def onesL (x : Nat) : List Nat := List.replicate 128 x
def zeroL (n : Nat) : List Nat := List.replicate (n * 128) 0
theorem onesL_len (x : Nat) : 128 = (onesL x).length := by simp only [onesL, List.length_replicate]
theorem onesL_mem (x : Nat) (h : x < 256) : ∀ c ∈ onesL x, c < 256 := fun c hc => by rw [(List.mem_replicate.1 hc).2]; exact h
theorem zeroL_len (n : Nat) : (zeroL n).length = n * 128 := List.length_replicate
theorem okay_new (n : Nat) (h1 : 1 ≤ n) (h2 : n ≤ 4096) : Okay n (zeroL n) [] := ⟨by omega, by omega, by rw [zeroL_len]; omega, by simp, by simp⟩
theorem sec_zero (n k : Nat) (h : k < n) : secN (zeroL n) k = onesL 0 := by
  unfold secN zeroL onesL
  rw [List.drop_replicate, List.take_replicate]
  congr 1
  omega
theorem new_at (n : Nat) (w : World) (h1 : 1 ≤ n) (h2 : n ≤ 4096) :
    Calls Tryz.prog 12 #[.int .i64 n] w fun e w' => ∃ v, e = .returned (.tuple #[v, .int .i64 0]) ∧ DiskNew w' w.heap.size v n (zeroL n) [] ∧ Below w.heap.size w w' := new_ok n w h1 h2
theorem DiskNew.form {w : World} {base : Nat} {v : Value} {count : Int} {data : List Nat} {ws : Puts} (h : DiskNew w base v count data ws) : ∃ gd L q M m, v = .agg #[.int .i64 count, .slice (some ⟨gd, 0, none⟩) L L, .slice q M m] := by
  obtain ⟨gd, q, m, gs, h1, _⟩ := h.lies
  exact ⟨gd, _, q, _, m, h1⟩
theorem SecNew.form {w : World} {base : Nat} {v : Value} {xs : List Nat} (h : SecNew w base v xs) : ∃ g, v = .slice (some ⟨g, 0, none⟩) 128 128 ∧ base ≤ g ∧ BIn w (some ⟨g, 0, none⟩) xs ∧ xs.length = 128 := by
  obtain ⟨g, h1, h2, h3, h4, h5⟩ := h
  exact ⟨g, h1, h2, bin_row h3 h5, h4⟩
theorem conv_atD {w : World} {p : Option Addr} {xs : List Nat} {n c : Nat} (h : BIn w p xs) (hn : n = xs.length) : (convert 22 9 (.slice p n c)).run Tryz.prog w = .ok (.string (strOf xs)) w := by
  subst hn; exact conv_bytes h c
theorem alive_step : stepA 2 (zeroL 2, []) (false, 1, onesL 1) = .ok (zeroL 2, [(1, onesL 1)]) := by
  have := onesL_len 1
  simp [stepA, ← this]
theorem alive_okay : Okay 2 (zeroL 2) [(1, onesL 1)] := okay_step (s := (zeroL 2, [])) (s' := (zeroL 2, [(1, onesL 1)])) (okay_new 2 (by decide) (by decide)) alive_step
theorem alive_now : nowN (zeroL 2) [(1, onesL 1)] ((1 : Nat) : Int) = onesL 1 := by simp [nowN, nowK]

/-- Two sectors that were read, read as strings. -/
theorem keepC0 {WS w' : World} {g6 g7 : Nat} {x y : Nat} (h6 : BIn WS (some ⟨g6, 0, none⟩) (onesL x)) (h7 : BIn WS (some ⟨g7, 0, none⟩) (onesL y)) (hb : Below WS.heap.size WS w') :
    (convert 22 9 (.slice (some ⟨g6, 0, none⟩) 128 128)).run Tryz.prog w' = .ok (.string (strOf (onesL x))) w' ∧ (convert 22 9 (.slice (some ⟨g7, 0, none⟩) 128 128)).run Tryz.prog w' = .ok (.string (strOf (onesL y))) w' ∧ Hid (Below WS.heap.size WS w') :=
  ⟨conv_atD (h6.below hb) (onesL_len x), conv_atD (h7.below hb) (onesL_len y), hb⟩
end Go.Proofs.YthifpelappedcaaGreatDoor
namespace Go.Proofs.YthifpelappedcaaGreatDoor
set_option maxRecDepth 8000
open Go.RowKit Go.WideShapes

theorem bools_one {X : World} {b : Bool} {t : TypeId} {H : Nat} (hH : H = X.heap.size) : BoolsIn (X.alloc (.cells #[.bool b] t)) (some ⟨H, 0, none⟩) [b] := by
  subst hH
  intro _
  refine ⟨X.heap.size, 0, rfl, fun i hi => ?_⟩
  obtain rfl : i = 0 := by simpa using hi
  exact cell_of_row _ _ _ _ _ _ (heap_alloc_new X _)
theorem names_a : secN (settleN (zeroL 2) [(1, onesL 1)]) 1 = onesL 1 := by
  have := sec_settle alive_okay (n := 1) (by decide) 1 (by decide)
  have e : settleN (zeroL 2) [(1, onesL 1)] = settleK (zeroL 2) [(1, onesL 1)] 1 := rfl
  rw [e, this]
  simp [nowK]
theorem names_b : secN (crashN (zeroL 2) [(1, onesL 1)] [true]) 1 = onesL 1 := by
  have e : crashN (zeroL 2) [(1, onesL 1)] [true] = settleN (zeroL 2) [(1, onesL 1)] := crash_all (fun k hk => by have : k = 0 := by simpa using hk
                                                                                                                  subst this; rfl) _ (Nat.le_refl _)
  rw [e, names_a]
theorem names_c : secN (crashN (zeroL 2) [(1, onesL 1)] []) 1 = onesL 0 := by
  rw [crashN, crash_none, sec_zero 2 1 (by decide)]
theorem diskIn_puts {w : World} {count : Int} {data : List Nat} {ws : Puts} {p q : Option Addr} {n c M m : Nat} (h : DiskIn w (.agg #[.int .i64 count, .slice p n c, .slice q M m]) count data ws) : PutsIn w q ws := by
  obtain ⟨p', c', q', m', e, _, _, _, _, hq, _⟩ := h.parts
  simp only [Value.agg.injEq, Array.mk.injEq, List.cons.injEq, Value.slice.injEq, and_true, true_and] at e
  rw [e.2.1]
  exact hq
end Go.Proofs.YthifpelappedcaaGreatDoor
namespace Go.Proofs.YthifpelappedcaaGreatDoor
set_option maxRecDepth 8000
open Go.RowKit Go.WideShapes

/-- A row of bytes of the call's own: nil, or a row with room perhaps. -/
structure RowG (w : World) (base : Nat) (v : Value) (xs : List Nat) : Prop where
  own : w.ownsRow base 5 1 v xs.length (Bs xs)
  bytes : ∀ c ∈ xs, c < 256
theorem RowG.form {w : World} {base : Nat} {v : Value} {xs : List Nat} (h : RowG w base v xs) : ∃ p c, v = .slice p xs.length c ∧ BIn w p xs ∧ xs.length ≤ c ∧ c ≤ maxLen ∧ (p = none → c = 0) := by
  rcases h.own.2 with ⟨hv, hn⟩ | ⟨g, cap, cur, hv, hb, hg, hle, hmax, hsz, htk⟩
  · exact ⟨none, 0, by rw [hv, hn], ⟨fun h => by omega, h.bytes⟩, by omega, by unfold maxLen; omega, fun _ => rfl⟩
  · subst hv
    refine ⟨_, cap, rfl, ⟨fun _ => ⟨g, 0, rfl, fun i hi => ?_⟩, h.bytes⟩, hle, hmax, fun h => by cases h⟩
    rw [Nat.zero_add, h.own.cellAt i (by omega)]
    simp [Bs, List.getD, List.getElem?_eq_getElem hi]
theorem RowG.row {w : World} {base : Nat} {v : Value} {xs : List Nat} (h : RowG w base v xs) : Row w v xs := by
  obtain ⟨p, c, h1, h2, h3, h4, h5⟩ := h.form
  exact ⟨p, c, h1, h2, h3, h4, h5⟩
theorem RowG.keepB {w w' : World} {base : Nat} {v : Value} {xs : List Nat} (h : RowG w base v xs) (hk : ∀ k cur, base ≤ k → w.heap[k]? = some (.cells cur 5 (0, 0)) → w'.heap[k]? = w.heap[k]?) : RowG w' base v xs := by
  refine ⟨⟨h.own.1, ?_⟩, h.bytes⟩
  rcases h.own.2 with h' | ⟨g, cap, cur, h1, h2, h3, h4⟩
  · exact .inl h'
  · exact .inr ⟨g, cap, cur, h1, h2, (hk g cur h2 h3).trans h3, h4⟩
theorem RowG.below {w w' : World} {base : Nat} {v : Value} {xs : List Nat} (h : RowG w base v xs) (hb : Below w.heap.size w w') : RowG w' base v xs := h.keepB fun k _ _ e => hb.block k (lt_heap e)
theorem RowG.mono {w : World} {base base' : Nat} {v : Value} {xs : List Nat} (h : RowG w base v xs) (hb : base' ≤ base) : RowG w base' v xs := by
  refine ⟨⟨h.own.1, ?_⟩, h.bytes⟩
  rcases h.own.2 with h' | ⟨g, cap, cur, h1, h2, h3⟩
  · exact .inl h'
  · exact .inr ⟨g, cap, cur, h1, Nat.le_trans hb h2, h3⟩

theorem wpList_append_row (w : World) {ops : Array Oper} {rest : List Oper} {o : Oper} {a : Act} {Q : Exit → Act → World → Prop} (hgd : o.guard = none) (s x : Operand)
    (ho : o.op = .call { callee := .builtin .append, args := #[s, x], argTypes := #[22, 22] }) (base : Nat) (v : Value) (xs ys : List Nat) (p : Option Addr) (m c : Nat) (hs : a.eval s = v) (hx : a.eval x = .slice p m c) (hm : m = ys.length)
    (hown : w.ownsRow base 5 1 v xs.length (Bs xs)) (hin : BIn w p ys) (hp : p = none → c = 0) (hlen : xs.length + ys.length ≤ 140737488355328) (hbase : base ≤ w.heap.size)
    (h : ∀ v' w', w'.ownsRow base 5 1 v' (xs ++ ys).length (Bs (xs ++ ys)) → w.grownBy w' v.ownBlock → wpList Tryz.prog ops Q rest (a.put o.dst v') w') : wpList Tryz.prog ops Q (o :: rest) a w := by
  subst hm
  refine wpList_plain hgd fun K hK => ?_
  obtain ⟨i0, hi, hz0, hz1, hz2⟩ := info_parts info_u8
  obtain ⟨v', w', hr, h2, h3⟩ := run_append_row (P := Tryz.prog) (tb := 22) (eb := 5) Tryz.underlying22 hi hz0 hz1 hz2 base o.type v xs ys p c hown hin hp hlen hbase
  unfold Oper.wp execOp
  simp only [ho, resolve, invoke, builtin, Sem.run_bind, Sem.run_pure, Result.andThen_ok, List.map_toArray, List.map_cons, List.map_nil, hs, hx, hr]
  exact hK _ _ (h v' w' h2 h3)
set_option maxHeartbeats 400000 in
theorem rbytes_any (p : Option Addr) (c n : Nat) (xs : List Nat) (w : World) (hn : n = xs.length) (hb : BIn w p xs) (hp : p = none → c = 0) (hl : xs.length ≤ 140737488355328) :
    Calls Tryz.prog 67 #[.slice p n c] w fun e w' => ∃ v, e = .returned v ∧ RowG w' w.heap.size v xs ∧ Below w.heap.size w w' := by
  have HB : Hid (∀ c ∈ xs, c < 256) := hb.2
  go_enter Tryz.func67, Tryz.ntmps67
  go_wp2_with (at_builtin; refine wpList_append_row _ rfl _ _ rfl w.heap.size (.slice none 0 0) [] xs p n c rfl rfl hn (World.ownsRow_nil _ _ _ _) hb hp (by simpa using hl) (Nat.le_refl _) ?_)
  intro v' w' hown hgrow
  have hb1 : Below w.heap.size w w' := (Below.refl _ _).grown hgrow (Nat.le_refl _) (fun k hk => by simp [Value.ownBlock] at hk)
  have HO : Hid (w'.ownsRow w.heap.size 5 1 v' xs.length (Bs xs)) := hown
  clear hb hown hgrow
  go_wp2
  go_ret
  exact ⟨_, rfl, ⟨HO.out, HB.out⟩, hb1⟩

set_option maxRecDepth 4000 in
set_option maxHeartbeats 2000000 in
theorem may_any (v : Value) (count : Int) (data : List Nat) (ws : Puts) (w : World) (hd : DiskIn w v count data ws) (b : Bool) (hbo : b = true ↔ Okay count data ws) :
    Calls Tryz.prog 145 #[v] w fun e w' => e = .returned (.bool b) ∧ Below w.heap.size w w' := by
  obtain ⟨p, c, q, m, rfl, hb, hc, hcm, hp, hq, hm, hmm, hqn⟩ := hd.parts
  have hcount := i64_bounds hd.count_wf
  have HBO : Hid _ := hbo
  have hwf := hd.puts_wf
  have HWF : Hid (∀ y ∈ ws, (Lit.int .i64 y.1).wf = true) := hwf
  clear hd hb hp hqn hbo hwf
  unfold maxLen at hcm hmm
  have hno : ¬ Okay count data ws → b = false := fun h => by
    cases b with
    | false => rfl
    | true => exact absurd (HBO.out.1 rfl) h
  have HNO : Hid _ := hno
  clear hno
  by_cases h1 : 1 ≤ count
  · by_cases h1' : count ≤ 4096
    · by_cases h2 : (data.length : Int) = count * 128
      · by_cases h3 : ws.length ≤ 4096
        · have h2b : ((data.length : Int) != count * 128) = false := by simpa using h2
          have H2 : Hid ((data.length : Int) = count * 128) := h2
          clear h2
          go_enter Tryz.func145, Tryz.ntmps145
          go_wp2
          go_loopw [3] (fun i wr => ∃ k : Nat, k ≤ ws.length ∧ i = .int .i64 k ∧ Hid (GoodK count ws k) ∧ Below (w.heap.size + 1) (w.alloc (.cells #[.int .i64 count, .slice p data.length c, .slice q ws.length m] 25)) wr) (fun i _ => ws.length - (intOf i).toNat)
          case atStart => exact ⟨0, by omega, rfl, fun i hi => absurd hi (by omega), Below.refl _ _⟩
          case round =>
            obtain ⟨k, hk, rfl, HG, hbel⟩ := hrel
            obtain ⟨hc0, hc1, hc2⟩ := box_cells hbel
            have hsz := box_size hbel
            by_cases hkl : k < ws.length
            · obtain ⟨b', o, rfl⟩ := hq.addr (by omega)
              obtain ⟨e1, pk, ck, e2, f1, f2⟩ := (hq.below (box_below hbel)).at' hkl
              clear hq
              have HS := GoodK.step (k := k) HG.out
              have HE := GoodK.bad (data := data) (k := k) (count := count) hkl
              have hsw := i64_bounds (HWF.out _ (getD_mem hkl))
              generalize ws.getD k (0, []) = y at *
              obtain ⟨s, xs⟩ := y
              have HS' : Hid _ := HS
              have HE' : Hid _ := HE
              clear HS HE
              simp only at e1 e2 f1 hsw
              by_cases g1 : 0 ≤ s
              · by_cases g1' : s < count
                · by_cases g2 : xs.length = 128
                  · have HG2 : Hid (GoodK count ws (k + 1)) := HS'.out ⟨g1, g1'⟩ g2
                    go_wp2
                    go_roundw
                    case rel => exact ⟨k + 1, by omega, by go_num, HG2, hbel.alloc (by omega) _⟩
                    case measure => simp [intOf]; omega
                  · have hf := HNO.out (HE'.out (fun h => g2 h.2))
                    subst hf
                    have hne : ((xs.length : Int) != 128) = true := by simp; omega
                    go_wp2
                    go_ret
                    exact ⟨rfl, box_below (hbel.alloc (by omega) _)⟩
                · have hf := HNO.out (HE'.out (fun h => g1' h.1.2))
                  subst hf
                  go_wp2
                  go_ret
                  exact ⟨rfl, box_below (hbel.alloc (by omega) _)⟩
              · have hf := HNO.out (HE'.out (fun h => g1 h.1.1))
                subst hf
                go_wp2
                go_ret
                exact ⟨rfl, box_below (hbel.alloc (by omega) _)⟩
            · obtain rfl : k = ws.length := by omega
              have ht : b = true := HBO.out.2 (GoodK.okay HG.out h1 h1' H2.out h3)
              subst ht
              clear HG
              go_wp2
              go_ret
              exact ⟨rfl, box_below hbel⟩
        · have hf := HNO.out (fun h => h3 h.few)
          subst hf
          have h2b : ((data.length : Int) != count * 128) = false := by simpa using h2
          clear h2
          go_enter Tryz.func145, Tryz.ntmps145
          go_wp2
          go_ret
          exact ⟨rfl, below_alloc _ _⟩
      · have hf := HNO.out (fun h => h2 h.len)
        subst hf
        have hne : ((data.length : Int) != count * 128) = true := by simpa using h2
        clear h2
        go_enter Tryz.func145, Tryz.ntmps145
        go_wp2
        go_ret
        exact ⟨rfl, below_alloc _ _⟩
    · have hf := HNO.out (fun h => h1' h.hi)
      subst hf
      go_enter Tryz.func145, Tryz.ntmps145
      go_wp2
      go_ret
      exact ⟨rfl, below_alloc _ _⟩
  · have hf := HNO.out (fun h => h1 h.lo)
    subst hf
    go_enter Tryz.func145, Tryz.ntmps145
    go_wp2
    go_ret
    exact ⟨rfl, below_alloc _ _⟩
end Go.Proofs.YthifpelappedcaaGreatDoor
namespace Go.Proofs.YthifpelappedcaaGreatDoor
set_option maxRecDepth 8000
open Go.RowKit Go.WideShapes

/-- What Do comes to, on whatever disk. -/
noncomputable def doAny (count : Int) (data : List Nat) (ws : Puts) (l : Acts) : Except Int (List Nat × Puts) := if errC count data ws = 0 then doN count (data, ws) l else .error 20
theorem doAny_ok {count : Int} {data : List Nat} {ws : Puts} (l : Acts) (h : Okay count data ws) : doAny count data ws l = doN count (data, ws) l := by simp [doAny, errC_ok h]
theorem doAny_bad {count : Int} {data : List Nat} {ws : Puts} (l : Acts) (h : ¬ Okay count data ws) : doAny count data ws l = .error 20 := by simp [doAny, errC_bad h]
def resE : Except Int (List Nat × Puts) → Int
  | .ok _ => 0
  | .error c => c
def resC (count : Int) : Except Int (List Nat × Puts) → Int
  | .ok _ => count
  | .error _ => 0
def resD : Except Int (List Nat × Puts) → List Nat
  | .ok s => s.1
  | .error _ => []
def resW : Except Int (List Nat × Puts) → Puts
  | .ok s => s.2
  | .error _ => []
theorem stepA_err {count : Int} {s : List Nat × Puts} {a : Bool × Int × List Nat} {c : Int} (h : stepA count s a = .error c) : c ≠ 0 := by
  unfold stepA at h
  split at h
  · cases h
  · split at h
    · cases h; decide
    · split at h
      · cases h; decide
      · split at h
        · cases h; decide
        · cases h
theorem doN_err {count : Int} (l : Acts) : ∀ {s : List Nat × Puts} {c : Int}, doN count s l = .error c → c ≠ 0 := by
  induction l with
  | nil => intro s c h; cases h
  | cons a l ih =>
    intro s c h
    simp only [doN] at h
    cases e : stepA count s a with
    | ok t => rw [e] at h; exact ih h
    | error d => rw [e] at h; cases h; exact stepA_err e
theorem doAny_err {count : Int} {data : List Nat} {ws : Puts} {l : Acts} {c : Int} (h : doAny count data ws l = .error c) : c ≠ 0 := by
  by_cases ho : Okay count data ws
  · rw [doAny_ok l ho] at h; exact doN_err l h
  · rw [doAny_bad l ho] at h; cases h; decide
theorem doAny_okay {count : Int} {data : List Nat} {ws : Puts} {l : Acts} {s : List Nat × Puts} (h : doAny count data ws l = .ok s) : Okay count s.1 s.2 := by
  by_cases ho : Okay count data ws
  · rw [doAny_ok l ho] at h; exact okay_do l (s := (data, ws)) ho h
  · rw [doAny_bad l ho] at h; cases h
theorem zero_in (w : World) : DiskIn w zeroDisk 0 [] [] :=
  ⟨⟨_, none, 0, rfl, ⟨none, 0, rfl, ⟨fun h => absurd h (by simp), by simp⟩, by simp, by unfold maxLen; omega, fun _ => rfl⟩, fun h => absurd h (by simp), by simp, by unfold maxLen; omega, fun _ => rfl⟩, by decide, by simp⟩
/-- A disk that reads so wherever the blocks from base on, that are there, are as they are. -/
def DiskF (base : Nat) (w : World) (v : Value) (count : Int) (data : List Nat) (ws : Puts) : Prop := ∀ w2 : World, (∀ k : Nat, base ≤ k → k < w.heap.size → w2.heap[k]? = w.heap[k]?) → DiskIn w2 v count data ws
theorem DiskF.self {base : Nat} {w : World} {v : Value} {count : Int} {data : List Nat} {ws : Puts} (h : DiskF base w v count data ws) : DiskIn w v count data ws := h w (fun _ _ _ => rfl)
theorem DiskF.below {base : Nat} {w w' : World} {v : Value} {count : Int} {data : List Nat} {ws : Puts} (h : DiskF base w v count data ws) (hb : Below w.heap.size w w') : DiskIn w' v count data ws := h w' (fun k _ hk => hb.block k hk)
theorem DiskF.set3 {base B : Nat} {w : World} {v : Value} {count : Int} {data : List Nat} {ws : Puts} (h : DiskF base w v count data ws) (hB : B < base) (a b c : Value) : DiskIn (((w.setCell ⟨B, 0, none⟩ a).setCell ⟨B, 1, none⟩ b).setCell ⟨B, 2, none⟩ c) v count data ws :=
  h _ (fun k hk _ => set3_other w B k a b c (by omega))
theorem PutsOwn.keepB {w w' : World} {base : Nat} {v : Value} {ws : Puts} {gs : List Nat} (h : PutsOwn w base v ws gs) (hk : ∀ k, base ≤ k → k < w.heap.size → w'.heap[k]? = w.heap[k]?) : PutsOwn w' base v ws gs :=
  h.keep (fun g _ hv e => hk g (h.row.lt g hv).1 (lt_heap e)) (fun i hi => hk _ (h.rows i hi).1 (lt_heap (h.rows i hi).2))
theorem DiskNew.fresh {w : World} {base : Nat} {v : Value} {count : Int} {data : List Nat} {ws : Puts} (h : DiskNew w base v count data ws) (ho : Okay count data ws) : DiskF base w v count data ws := by
  intro w2 hk
  obtain ⟨gd, q, m, gs, h1, h2, h3, h4, h5⟩ := h.lies
  have : DiskNew w2 base v count data ws := ⟨⟨gd, q, m, gs, h1, h2, (hk gd h2 (lt_heap h3)).trans h3, h4.keepB hk, h5⟩, h.bytes⟩
  exact this.toIn ho
theorem do_all (v : Value) (count : Int) (data : List Nat) (ws : Puts) (w : World) (hd : DiskIn w v count data ws) (q : Option Addr) (n m : Nat) (l : Acts) (hn : n = l.length) (hl : ActsIn w q l) (hll : l.length ≤ 9223372036854775807) (r : Except Int (List Nat × Puts)) (hr : doAny count data ws l = r) :
    Calls Tryz.prog 16 #[v, .slice q n m] w fun e w' => (∃ v', e = .returned (.tuple #[v', .int .i64 (resE r)]) ∧ DiskF w.heap.size w' v' (resC count r) (resD r) (resW r)) ∧ Below w.heap.size w w' := by
  subst hn
  subst hr
  by_cases ho : Okay count data ws
  · rw [doAny_ok l ho]
    refine (do_ok v count data ws w hd ho q m l hl hll).mono ?_
    rintro e w' ⟨hp, hb⟩
    refine ⟨?_, hb⟩
    generalize hr : doN count (data, ws) l = r at *
    cases hp with
    | err c => exact ⟨_, rfl, fun w2 _ => zero_in w2⟩
    | ok d2 w2 v2 _ hnew => exact ⟨_, rfl, hnew.fresh (okay_do l (s := (data, ws)) (s' := (d2, w2)) ho hr)⟩
  · rw [doAny_bad l ho]
    refine (do_bad v _ count data ws w hd ho).mono ?_
    rintro e w' ⟨rfl, hb⟩
    exact ⟨⟨_, rfl, fun w2 _ => zero_in w2⟩, hb⟩
theorem doAny_fail {count : Int} {data : List Nat} {ws : Puts} {l : Acts} {k : Nat} {c : Int} (h : doAny count data ws (l.take k) = .error c) : doAny count data ws l = .error c := by
  by_cases ho : Okay count data ws
  · rw [doAny_ok _ ho] at h ⊢; exact doN_fail h
  · rw [doAny_bad _ ho] at h ⊢; exact h
theorem doAny_cut {count : Int} {data : List Nat} {ws : Puts} {l : Acts} {k : Nat} {s : List Nat × Puts} (h : doAny count data ws (l.take k) = .ok s) : doAny count s.1 s.2 (l.drop k) = doAny count data ws l := by
  have hs := doAny_okay h
  by_cases ho : Okay count data ws
  · rw [doAny_ok _ ho] at h ⊢
    rw [doAny_ok _ hs]
    conv => rhs; rw [← List.take_append_drop k l, doN_app, h]
  · rw [doAny_bad _ ho] at h; cases h
theorem acts_take {w : World} {q : Option Addr} {l : Acts} (h : ActsIn w q l) (k : Nat) : ActsIn w q (l.take k) := by
  intro hp
  simp only [List.length_take] at hp
  obtain ⟨b, o, rfl, hc⟩ := h (by omega)
  refine ⟨b, o, rfl, fun i hi => ?_⟩
  simp only [List.length_take] at hi
  have e : (l.take k).getD i (false, 0, []) = l.getD i (false, 0, []) := by simp [List.getD, show i < k from by omega]
  rw [e]
  exact hc i (by omega)
theorem acts_drop {w : World} {b o : Nat} {l : Acts} (h : ActsIn w (some ⟨b, o, none⟩) l) (k : Nat) (A : Option Addr) (hA : k < l.length → A = some ⟨b, o + k * 3, none⟩) : ActsIn w A (l.drop k) := by
  intro hp
  simp only [List.length_drop] at hp
  obtain ⟨b', o', e, hc⟩ := h (by omega)
  simp only [Option.some.injEq, Addr.mk.injEq, and_true] at e
  obtain ⟨rfl, rfl⟩ := e
  refine ⟨b, o + k * 3, hA (by omega), fun i hi => ?_⟩
  simp only [List.length_drop] at hi
  have e : (l.drop k).getD i (false, 0, []) = l.getD (k + i) (false, 0, []) := by simp [List.getD]
  rw [e]
  have := hc (k + i) (by omega)
  rw [show o + k * 3 + i * 3 = o + (k + i) * 3 from by omega, show o + k * 3 + (i * 3 + 1) = o + ((k + i) * 3 + 1) from by omega, show o + k * 3 + (i * 3 + 2) = o + ((k + i) * 3 + 2) from by omega]
  exact this
end Go.Proofs.YthifpelappedcaaGreatDoor
namespace Go.Proofs.YthifpelappedcaaGreatDoor
set_option maxRecDepth 8000
open Go.RowKit Go.WideShapes
attribute [local go_sem ↓] Go.wp_at_zero Go.wp_at_succ

/-- The cells of writes, their bytes as the values vs. -/
def cellsV : Puts → List Value → List Value
  | y :: ws, v :: vs => .int .i64 y.1 :: v :: cellsV ws vs
  | _, _ => []
theorem cellsV_snoc (y : Int × List Nat) (v : Value) : ∀ (ws : Puts) (vs : List Value), vs.length = ws.length → cellsV (ws ++ [y]) (vs ++ [v]) = cellsV ws vs ++ [.int .i64 y.1, v]
  | [], [], _ => rfl
  | z :: ws, h :: gs, hl => by
    have := cellsV_snoc y v ws gs (by simpa using hl)
    simp [cellsV, this]
  | [], _ :: _, h => by simp at h
  | _ :: _, [], h => by simp at h
theorem cellsV_at : ∀ (ws : Puts) (vs : List Value) (i : Nat), vs.length = ws.length → i < ws.length → (cellsV ws vs)[i * 2]? = some (.int .i64 (ws.getD i (0, [])).1) ∧ (cellsV ws vs)[i * 2 + 1]? = some (vs.getD i undef)
  | y :: ws, v :: vs, 0, _, _ => ⟨rfl, rfl⟩
  | y :: ws, v :: vs, i + 1, h, hi => by
    have := cellsV_at ws vs i (by simpa using h) (by simpa using hi)
    rw [show (i + 1) * 2 = i * 2 + 1 + 1 from by omega]
    simpa [cellsV, List.getD] using this
  | [], _, _, _, h => by simp at h
  | _ :: _, [], _, h, _ => by simp at h
structure PutsG (w : World) (base : Nat) (v : Value) (ws : Puts) (vs : List Value) : Prop where
  len : vs.length = ws.length
  row : w.ownsRow base 45 2 v ws.length (cellsV ws vs)
  rows : ∀ i, i < ws.length → RowG w base (vs.getD i undef) (ws.getD i (0, [])).2
theorem putsG_nil (w : World) (base : Nat) : PutsG w base (.slice none 0 0) [] [] := ⟨rfl, World.ownsRow_nil _ _ _ _, fun i hi => absurd hi (by simp)⟩
theorem PutsG.lies {w : World} {base : Nat} {v : Value} {ws : Puts} {vs : List Value} (h : PutsG w base v ws vs) : ∃ q m, v = .slice q ws.length m ∧ PutsIn w q ws ∧ ws.length ≤ m ∧ m ≤ maxLen ∧ (q = none → m = 0) := by
  rcases h.row.2 with ⟨hv, hn⟩ | ⟨g, cap, cur, hv, hb, hg, hle, hmax, hsz, htk⟩
  · exact ⟨none, 0, by rw [hv, hn], fun h => by omega, by omega, by unfold maxLen; omega, fun _ => rfl⟩
  · subst hv
    refine ⟨_, cap, rfl, fun _ => ⟨g, 0, rfl, fun i hi => ?_⟩, hle, hmax, fun h => by cases h⟩
    obtain ⟨c0, c1⟩ := cellsV_at ws vs i h.len hi
    have e0 : w.cell? ⟨g, i * 2, none⟩ = some (.int .i64 (ws.getD i (0, [])).1) := by rw [h.row.cellAt _ (by omega), c0]
    have e1 : w.cell? ⟨g, i * 2 + 1, none⟩ = some (vs.getD i undef) := by rw [h.row.cellAt _ (by omega), c1]
    exact ⟨by rw [Nat.zero_add]; exact e0, _, by rw [Nat.zero_add]; exact e1, (h.rows i hi).row⟩
theorem PutsG.keepB {w w' : World} {base : Nat} {v : Value} {ws : Puts} {vs : List Value} (h : PutsG w base v ws vs) (hk : ∀ (k : Nat) (cur : Array Value) (t : TypeId), t = 5 ∨ t = 45 → base ≤ k → w.heap[k]? = some (.cells cur t (0, 0)) → w'.heap[k]? = w.heap[k]?) : PutsG w' base v ws vs := by
  refine ⟨h.len, ⟨h.row.1, ?_⟩, fun i hi => (h.rows i hi).keepB fun k cur hb e => hk k cur _ (.inl rfl) hb e⟩
  rcases h.row.2 with h' | ⟨g, cap, cur, h1, h2, h3, h4⟩
  · exact .inl h'
  · exact .inr ⟨g, cap, cur, h1, h2, (hk g cur _ (.inr rfl) h2 h3).trans h3, h4⟩
theorem PutsG.below {w w' : World} {base : Nat} {v : Value} {ws : Puts} {vs : List Value} (h : PutsG w base v ws vs) (hb : Below w.heap.size w w') : PutsG w' base v ws vs := h.keepB fun k _ _ _ _ e => hb.block k (lt_heap e)
theorem PutsG.mono {w : World} {base base' : Nat} {v : Value} {ws : Puts} {vs : List Value} (h : PutsG w base v ws vs) (hb : base' ≤ base) : PutsG w base' v ws vs := by
  refine ⟨h.len, ⟨h.row.1, ?_⟩, fun i hi => (h.rows i hi).mono hb⟩
  rcases h.row.2 with h' | ⟨g, cap, cur, h1, h2, h3⟩
  · exact .inl h'
  · exact .inr ⟨g, cap, cur, h1, Nat.le_trans hb h2, h3⟩
/-- The row of writes is none of bytes. -/
theorem PutsG.apart {w : World} {base : Nat} {v : Value} {ws : Puts} {vs : List Value} (h : PutsG w base v ws vs) {k : Nat} {cs : Array Value} {t : TypeId} (ht : t ≠ 45) (hk : w.heap[k]? = some (.cells cs t (0, 0))) : some k ≠ v.ownBlock := by
  intro e
  rcases h.row.2 with ⟨hv, _⟩ | ⟨g', cap, cur, hv, _, h3, _⟩
  · rw [hv] at e; simp [Value.ownBlock] at e
  · rw [hv] at e
    simp only [Value.ownBlock, Option.some.injEq] at e
    subst e
    rw [hk] at h3
    simp only [Option.some.injEq, Obj.cells.injEq] at h3
    exact ht h3.2.1
theorem PutsG.push {w w1 : World} {base : Nat} {v v' : Value} {ws : Puts} {vs : List Value} {s : Int} {xs : List Nat} {xv : Value} (h : PutsG w base v ws vs) (hx : RowG w base xv xs)
    (hown : w1.ownsRow base 45 2 v' (ws.length + 1) (cellsV ws vs ++ [.int .i64 s, xv])) (hgrow : w.grownBy w1 v.ownBlock) : PutsG w1 base v' (ws ++ [(s, xs)]) (vs ++ [xv]) := by
  have hfar : ∀ (k : Nat) (cs : Array Value), base ≤ k → w.heap[k]? = some (.cells cs 5 (0, 0)) → w1.heap[k]? = w.heap[k]? := fun k cs _ hk => hgrow.block k (lt_heap hk) (h.apart (by decide) hk)
  refine ⟨by simp [h.len], by rw [cellsV_snoc _ _ _ _ h.len]; simpa using hown, ?_⟩
  intro i hi
  simp only [List.length_append, List.length_singleton] at hi
  rcases Nat.lt_or_ge i ws.length with h' | h'
  · have e1 : (vs ++ [xv]).getD i undef = vs.getD i undef := by simp [List.getD, List.getElem?_append_left (show i < vs.length by rw [h.len]; exact h')]
    rw [e1, getD_app_left h']
    exact (h.rows i h').keepB hfar
  · obtain rfl : i = ws.length := by omega
    have e1 : (vs ++ [xv]).getD ws.length undef = xv := by rw [← h.len]; simp [List.getD]
    have e2 : (ws ++ [(s, xs)]).getD ws.length (0, []) = (s, xs) := by simp [List.getD]
    rw [e1, e2]
    exact hx.keepB hfar
/-- A disk of the call's own behind a pointer, as the document's own answers make it. -/
structure DiskG (w : World) (base B0 : Nat) (count : Int) (dv : Value) (data : List Nat) (wv : Value) (ws : Puts) (vs : List Value) : Prop where
  box : w.heap[B0]? = some (.cells #[.int .i64 count, dv, wv] 25 (0, 0))
  hB : base ≤ B0
  data : RowG w base dv data
  puts : PutsG w base wv ws vs
theorem DiskG.below {w w' : World} {base B0 : Nat} {count : Int} {dv wv : Value} {data : List Nat} {ws : Puts} {vs : List Value} (h : DiskG w base B0 count dv data wv ws vs) (hb : Below w.heap.size w w') : DiskG w' base B0 count dv data wv ws vs :=
  ⟨(hb.block _ (lt_heap h.box)).trans h.box, h.hB, h.data.below hb, h.puts.below hb⟩
/-- By value. -/
structure DiskV (w : World) (base : Nat) (v : Value) (count : Int) (data : List Nat) (ws : Puts) : Prop where
  lies : ∃ dv wv vs, v = .agg #[.int .i64 count, dv, wv] ∧ RowG w base dv data ∧ PutsG w base wv ws vs
theorem DiskV.toIn {w : World} {base : Nat} {v : Value} {count : Int} {data : List Nat} {ws : Puts} (h : DiskV w base v count data ws) (hc : (Lit.int .i64 count).wf = true) (hw : ∀ y ∈ ws, (Lit.int .i64 y.1).wf = true) : DiskIn w v count data ws := by
  obtain ⟨dv, wv, vs, rfl, h1, h2⟩ := h.lies
  obtain ⟨q, m, rfl, g1, g2, g3, g4⟩ := h2.lies
  exact ⟨⟨dv, q, m, rfl, h1.row, g1, g2, g3, g4⟩, hc, hw⟩
theorem DiskV.keepB {w w' : World} {base : Nat} {v : Value} {count : Int} {data : List Nat} {ws : Puts} (h : DiskV w base v count data ws) (hk : ∀ (k : Nat) (cur : Array Value) (t : TypeId), t = 5 ∨ t = 45 → base ≤ k → w.heap[k]? = some (.cells cur t (0, 0)) → w'.heap[k]? = w.heap[k]?) : DiskV w' base v count data ws := by
  obtain ⟨dv, wv, vs, h1, h2, h3⟩ := h.lies
  exact ⟨⟨dv, wv, vs, h1, h2.keepB fun k cur hb e => hk k cur _ (.inl rfl) hb e, h3.keepB hk⟩⟩
theorem DiskV.below {w w' : World} {base : Nat} {v : Value} {count : Int} {data : List Nat} {ws : Puts} (h : DiskV w base v count data ws) (hb : Below w.heap.size w w') : DiskV w' base v count data ws := h.keepB fun k _ _ _ _ e => hb.block k (lt_heap e)
theorem DiskV.mono {w : World} {base base' : Nat} {v : Value} {count : Int} {data : List Nat} {ws : Puts} (h : DiskV w base v count data ws) (hb : base' ≤ base) : DiskV w base' v count data ws := by
  obtain ⟨dv, wv, vs, h1, h2, h3⟩ := h.lies
  exact ⟨⟨dv, wv, vs, h1, h2.mono hb, h3.mono hb⟩⟩
theorem DiskV.set3 {w : World} {base B : Nat} {v : Value} {count : Int} {data : List Nat} {ws : Puts} {cs : Array Value} (h : DiskV w base v count data ws) (hB : w.heap[B]? = some (.cells cs 25 (0, 0))) (a b c : Value) :
    DiskV (((w.setCell ⟨B, 0, none⟩ a).setCell ⟨B, 1, none⟩ b).setCell ⟨B, 2, none⟩ c) base v count data ws := by
  refine h.keepB fun k cs' t ht _ e => set3_other w B k a b c ?_
  rintro rfl
  rw [hB] at e
  simp only [Option.some.injEq, Obj.cells.injEq] at e
  rcases ht with rfl | rfl
  · exact absurd e.2.1 (by decide)
  · exact absurd e.2.1 (by decide)
end Go.Proofs.YthifpelappedcaaGreatDoor
namespace Go.Proofs.YthifpelappedcaaGreatDoor
set_option maxRecDepth 8000
open Go.RowKit Go.WideShapes
attribute [local go_sem ↓] Go.wp_at_zero Go.wp_at_succ

theorem RowG.set3 {w : World} {base B : Nat} {v : Value} {xs : List Nat} {cs : Array Value} (h : RowG w base v xs) (hB : w.heap[B]? = some (.cells cs 25 (0, 0))) (a b c : Value) :
    RowG (((w.setCell ⟨B, 0, none⟩ a).setCell ⟨B, 1, none⟩ b).setCell ⟨B, 2, none⟩ c) base v xs := by
  refine h.keepB fun k cs' _ e => set3_other w B k a b c ?_
  rintro rfl
  rw [hB] at e
  simp only [Option.some.injEq, Obj.cells.injEq] at e
  exact absurd e.2.1 (by decide)
/-- One write more, and the field that holds them stored. -/
theorem DiskG.pushed {w3 w4 : World} {base B0 : Nat} {count : Int} {dv wv : Value} {data : List Nat} {ws : Puts} {vs : List Value} (h : DiskG w3 base B0 count dv data wv ws vs) {s : Int} {xs : List Nat} {xv : Value} {g' cap' n : Nat} {o : Obj} (hx : RowG w3 base xv xs)
    (hn : n = ws.length + 1) (hown : w4.ownsRow base 45 2 (.slice (some ⟨g', 0, none⟩) n cap') n (cellsV ws vs ++ [.int .i64 s, xv])) (hgrow : (w3.alloc o).grownBy w4 wv.ownBlock) :
    DiskG (w4.setCell ⟨B0, 2, none⟩ (.slice (some ⟨g', 0, none⟩) n cap')) base B0 count dv data (.slice (some ⟨g', 0, none⟩) n cap') (ws ++ [(s, xs)]) (vs ++ [xv]) := by
  subst hn
  have ha := h.below (below_alloc w3 o)
  have P4 := ha.puts.push (hx.below (below_alloc w3 o)) hown hgrow
  have box4 := (hgrow.block _ (lt_heap ha.box) (ha.puts.apart (by decide) ha.box)).trans ha.box
  have D4 : RowG w4 base dv data := ha.data.keepB fun k cur _ e => hgrow.block k (lt_heap e) (ha.puts.apart (by decide) e)
  have hBne : ∀ (k : Nat) (cs : Array Value) (t : TypeId), t ≠ 25 → w4.heap[k]? = some (.cells cs t (0, 0)) → k ≠ B0 := by
    rintro k cs t ht hk rfl
    rw [box4] at hk
    simp only [Option.some.injEq, Obj.cells.injEq] at hk
    exact ht hk.2.1.symm
  refine ⟨?_, h.hB, D4.keepB fun k cur _ e => heap_setCell_other w4 ⟨B0, 2, none⟩ k _ (hBne k _ _ (by decide) e), P4.keepB fun k cur t ht _ e => heap_setCell_other w4 ⟨B0, 2, none⟩ k _ (hBne k _ _ (by rcases ht with rfl | rfl <;> decide) e)⟩
  rw [heap_setCell_same w4 B0 2 _ _ _ box4]
  simp
theorem rowG_at {w : World} {base k : Nat} {v : Value} {ws : Puts} {vs : List Value} (hk : ws.length = k) (h : PutsG w base v ws vs) : w.ownsRow base 45 2 v k (cellsV ws vs) := by
  subst hk; exact h.row
theorem results_cell_one {fn : Func} {p : Tmp} {ty : TypeId} (h : fn.results = #[.cell p ty]) (tmps : Array Value) (P : Program) (w : World) :
    (results fn tmps).run P w = ((asAddr (tmps.getD p undef)).run P w).andThen fun a w₁ => (loadVar ty a).run P w₁ := by
  simp only [results, h]
  simp [Sem.run_bind, Result.andThen]
theorem rowG_oneCell {w : World} {base : Nat} {v : Value} {xs : List Nat} (h : RowG w base v xs) (s : Int) : ∀ u ∈ [Value.int .i64 s, v], u.oneCell' = true := by
  obtain ⟨p, c, rfl, _⟩ := h.form
  exact two_oneCell s p _ c
theorem DiskG.toV {w : World} {base B0 : Nat} {count : Int} {dv wv : Value} {data : List Nat} {ws : Puts} {vs : List Value} (h : DiskG w base B0 count dv data wv ws vs) : DiskV w base (.agg #[.int .i64 count, dv, wv]) count data ws := ⟨⟨dv, wv, vs, rfl, h.data, h.puts⟩⟩

set_option maxRecDepth 4000 in
set_option maxHeartbeats 8000000 in
theorem twin_any (v : Value) (count : Int) (data : List Nat) (ws : Puts) (w : World) (hd : DiskIn w v count data ws) (hdl : data.length ≤ 140737488355328) (hwl : ∀ y ∈ ws, y.2.length ≤ 140737488355328) (hfew : ws.length ≤ 100000) :
    Calls Tryz.prog 26 #[v] w fun e w' => (∃ v', e = .returned v' ∧ DiskV w' w.heap.size v' count data ws) ∧ Below w.heap.size w w' := by
  obtain ⟨p, c, q, m, rfl, hb, _, _, hpn, hqp, hqm, hqmm, _⟩ := hd.parts
  have HPN : Hid (p = none → c = 0) := hpn
  have HBD : Hid (BIn w p data) := hb
  have HQ : Hid (PutsIn w q ws) := hqp
  have HDL : Hid (data.length ≤ 140737488355328) := hdl
  have HD : Hid _ := hd
  clear hpn hb hqp hdl hd
  have HWL : Hid (∀ y ∈ ws, y.2.length ≤ 140737488355328) := hwl
  clear hwl
  obtain ⟨i0, hi, hz0, hz1, hz2⟩ := info_parts info_put
  go_enter Tryz.func26, Tryz.ntmps26
  go_wp2
  obtain ⟨W, hW⟩ : ∃ W, W = (w.alloc (.cells #[.int .i64 count, .slice p data.length c, .slice q ws.length m] 25)).alloc (.cells #[.int .i64 0, .slice none 0 0, .slice none 0 0] 25) := ⟨_, rfl⟩
  have HX : Hid (∀ w', Below (w.heap.size + 2) W w' → w'.heap[w.heap.size]? = some (.cells #[.int .i64 count, .slice p data.length c, .slice q ws.length m] 25 (0, 0)) ∧ w'.heap[w.heap.size + 1]? = some (.cells #[.int .i64 0, .slice none 0 0, .slice none 0 0] 25 (0, 0)) ∧ Below w.heap.size w w' ∧ w.heap.size + 2 ≤ w'.heap.size) := by
    intro w' h
    rw [hW] at h
    exact ⟨(box2_cells h).1, (box2_cells h).2, box2_below h, box2_size h⟩
  have HBW : Hid (∀ w', Below (w.heap.size + 2) W w' → Below w.heap.size w w') := fun w' h => (HX.out w' h).2.2.1
  have HWz : Hid (w.heap.size + 2 ≤ W.heap.size) := by show _ ≤ _; rw [hW]; simp
  have HS1 : (W.drew.cell? ⟨w.heap.size, 0, none⟩ = some (.int .i64 count) ∧ W.drew.cell? ⟨w.heap.size, 1, none⟩ = some (.slice p data.length c) ∧ W.drew.cell? ⟨w.heap.size, 2, none⟩ = some (.slice q ws.length m)) ∧ Hid (Below (w.heap.size + 2) W W.drew) := ⟨cells3 (HX.out _ (Below.refl _ _)).1, (Below.refl _ _).drew⟩
  rw [← hW]
  clear hW
  go_cut [3] from 5 (fun s3 w5 => ∃ B0 pd cd, s3 = .pointer (some ⟨B0, 0, none⟩) ∧ DiskG w5 (w.heap.size + 2) B0 count (.slice pd data.length cd) data (.slice none 0 0) [] [] ∧ Below (w.heap.size + 2) W w5)
  case first =>
    refine wp_region_noPanic ?_
    refine wp_region_held_drew (S := (fun w' => (w'.cell? ⟨w.heap.size, 0, none⟩ = some (.int .i64 count) ∧ w'.cell? ⟨w.heap.size, 1, none⟩ = some (.slice p data.length c) ∧ w'.cell? ⟨w.heap.size, 2, none⟩ = some (.slice q ws.length m)) ∧ Hid (Below (w.heap.size + 2) W w'))) (by kernel_rfl) HS1 (fun hS0 => ?_)
    clear HS1
    refine takeH 0 5 (v := ?_) rfl rfl (by kernel_rfl) (by kernel_rfl) (by kernel_rfl) (fun _ _ _ h => h) (by rfl) ?_ (by assumption) ?_
    rotate_left
    · intro w hSw; go_simp; first | done | with_reducible rfl
    simp only [Act.put, List.setIfInBounds_toArray, List.set_cons_zero, List.set_cons_succ]
    refine takeH 1 6 (v := ?_) rfl rfl (by kernel_rfl) (by kernel_rfl) (by kernel_rfl) (fun _ _ _ h => h) (by rfl) ?_ (by assumption) ?_
    rotate_left
    · intro w hSw; go_simp; first | done | with_reducible rfl
    simp only [Act.put, List.setIfInBounds_toArray, List.set_cons_zero, List.set_cons_succ]
    refine takeH 2 7 (v := ?_) rfl rfl (by kernel_rfl) (by kernel_rfl) (by kernel_rfl) (fun _ _ _ h => h) (by rfl) ?_ (by assumption) ?_
    rotate_left
    · intro w hSw; go_simp; first | done | with_reducible rfl
    simp only [Act.put, List.setIfInBounds_toArray, List.set_cons_zero, List.set_cons_succ]
    refine takeH 3 8 (v := ?_) rfl rfl (by kernel_rfl) (by kernel_rfl) (by kernel_rfl) (fun _ _ _ h => h) (by rfl) ?_ (by assumption) ?_
    rotate_left
    · intro w hSw; go_simp; first | done | with_reducible rfl
    simp only [Act.put, List.setIfInBounds_toArray, List.set_cons_zero, List.set_cons_succ]
    refine wpAnyH_ready (rs := [4, 6]) (by kernel_rfl) (by simp) ?_
    refine AllReadyH.cons rfl (fun K hK => ?_) (AllReadyH.cons rfl (fun K hK => ?_) AllReadyH.nil)
    · go_simp
      refine (rbytes_any p c _ data _ rfl (HBD.out.below (HBW.out _ hS0.2.out)) HPN.out HDL.out).mono ?_
      rintro e ww1 ⟨dv, rfl, hg', hb1⟩
      obtain ⟨pd, cd, rfl, _⟩ := hg'.form
      go_simp
      refine hK.out _ _ (keepS HWz.out hS0 hb1) (fun hS1 => ?_)
      clear hK K
      refine takeH 5 10 (v := ?_) rfl rfl (by kernel_rfl) (by kernel_rfl) (by kernel_rfl) (fun _ _ _ h => h) (by rfl) ?_ (by assumption) ?_
      rotate_left
      · intro w hSw; go_simp; first | done | with_reducible rfl
      simp only [Act.put, List.setIfInBounds_toArray, List.set_cons_zero, List.set_cons_succ]
      refine wpAnyH_ready (rs := [6]) (by kernel_rfl) (by simp) ?_
      refine AllReadyH.cons rfl (fun K hK => ?_) AllReadyH.nil
      have hb2 := below_alloc ww1 (.cells #[.int .i64 0, .slice none 0 0, .slice none 0 0] 25)
      go_simp
      refine hK.out _ _ (keepS HWz.out hS1 hb2) (fun hS2 => ?_)
      clear hK K
      refine wpAnyH_ready (rs := [7]) (by kernel_rfl) (by simp) ?_
      refine AllReadyH.cons rfl (fun K hK => ?_) AllReadyH.nil
      have szB := Nat.le_trans HWz.out hS1.2.out.size
      have szC := Nat.le_trans HWz.out hS0.2.out.size
      go_simp
      refine hK.out _ _ (keepA HWz.out hS1 _) (fun hSz => ?_)
      clear hK K
      refine wpAnyH_done (by kernel_rfl) (NoPanic.normal ?_) _
      go_wp2
      go_meet
      case rel =>
        exact ⟨_, pd, cd, rfl, ⟨heap_alloc_new _ _, szB, (hg'.mono szC).below (below_alloc _ _), putsG_nil _ _⟩, hSz.2.out⟩
    · have hb1 := below_alloc W.drew (.cells #[.int .i64 0, .slice none 0 0, .slice none 0 0] 25)
      go_simp
      refine hK.out _ _ (keepS HWz.out hS0 hb1) (fun hS1 => ?_)
      clear hK K
      refine wpAnyH_ready (rs := [4]) (by kernel_rfl) (by simp) ?_
      refine AllReadyH.cons rfl (fun K hK => ?_) AllReadyH.nil
      go_simp
      refine (rbytes_any p c _ data _ rfl (HBD.out.below (HBW.out _ hS1.2.out)) HPN.out HDL.out).mono ?_
      rintro e ww2 ⟨dv, rfl, hg', hb2⟩
      obtain ⟨pd, cd, rfl, _⟩ := hg'.form
      go_simp
      refine hK.out _ _ (keepS HWz.out hS1 hb2) (fun hS2 => ?_)
      clear hK K
      refine takeH 5 10 (v := ?_) rfl rfl (by kernel_rfl) (by kernel_rfl) (by kernel_rfl) (fun _ _ _ h => h) (by rfl) ?_ (by assumption) ?_
      rotate_left
      · intro w hSw; go_simp; first | done | with_reducible rfl
      simp only [Act.put, List.setIfInBounds_toArray, List.set_cons_zero, List.set_cons_succ]
      refine wpAnyH_ready (rs := [7]) (by kernel_rfl) (by simp) ?_
      refine AllReadyH.cons rfl (fun K hK => ?_) AllReadyH.nil
      have hZ : ww2.heap[W.heap.size]? = some (.cells #[.int .i64 0, .slice none 0 0, .slice none 0 0] 25 (0, 0)) := ((hb2).block _ (by first | (rw [World.size_alloc]; exact Nat.lt_succ_self _) | (show _ < (World.alloc _ _).heap.size; rw [World.size_alloc]; exact Nat.lt_succ_self _))).trans (heap_alloc_new _ _)
      obtain ⟨z0, z1, z2⟩ := cells3 hZ
      obtain ⟨y0, y1, y2⟩ := free3 hZ
      have HZ : Hid _ := hZ
      clear hZ
      have szB := Nat.le_trans HWz.out hS0.2.out.size
      have szC := Nat.le_trans HWz.out hS1.2.out.size
      go_simp
      refine hK.out _ _ (keep3 hS2 ⟨by have := szB; simp at this; omega, szB⟩ _ _ _) (fun hSz => ?_)
      clear hK K
      refine wpAnyH_done (by kernel_rfl) (NoPanic.normal ?_) _
      go_wp2
      go_meet
      case rel =>
        exact ⟨_, pd, cd, rfl, ⟨set3_same _ _ _ _ _ _ _ _ _ HZ.out, szB, (hg'.mono szC).set3 HZ.out _ _ _, putsG_nil _ _⟩, hSz.2.out⟩
  case rest =>
    obtain ⟨B0, pd, cd, rfl, hg0, hbc⟩ := hcut
    have HG0 : Hid _ := hg0
    clear hg0 HS1 HD HBD
    go_wp2
    go_loopw [4] (fun i wr => ∃ k : Nat, ∃ qk mk vk, k ≤ ws.length ∧ i = .int .i64 k ∧ DiskG wr (w.heap.size + 2) B0 count (.slice pd data.length cd) data (.slice qk k mk) (ws.take k) vk ∧ Below (w.heap.size + 2) W wr) (fun i _ => ws.length - (intOf i).toNat)
    case atStart => exact ⟨0, none, 0, [], by omega, rfl, HG0.out, hbc⟩
    case round =>
      obtain ⟨k, qk, mk, vk, hk, rfl, hok, hbk⟩ := hrel
      obtain ⟨hbx, hres, hbw, hsz⟩ := HX.out _ hbk
      obtain ⟨b0, b1, b2⟩ := cells3 hok.box
      obtain ⟨x0, x1, x2⟩ := cells3 hbx
      by_cases hkl : k < ws.length
      · have hq := HQ.out.below hbw
        obtain ⟨b, o, rfl⟩ := hq.addr (by omega)
        obtain ⟨e1, pk, ck, e2, hbi, _, _, hpk⟩ := hq.at hkl
        rw [← Nat.add_assoc] at e2
        have HXL : Hid ((ws.getD k (0, [])).2.length ≤ 140737488355328) := HWL.out _ (getD_mem hkl)
        have HTK : Hid (ws.take (k + 1) = ws.take k ++ [ws.getD k (0, [])]) := take_getD hkl
        have HK : Hid ((ws.take k).length = k) := by show _ = _; simp; omega
        generalize ws.getD k (0, []) = y at *
        obtain ⟨s, xs⟩ := y
        simp only at e1 e2 hbi HXL
        have HBI : Hid (BIn wr pk xs) := hbi
        have HPK : Hid (pk = none → ck = 0) := hpk
        have HOK : Hid (DiskG wr (w.heap.size + 2) B0 count (.slice pd data.length cd) data (.slice qk k mk) (ws.take k) vk) := hok
        have hkk : (0 : Int) ≤ (k : Int) := by omega
        have hkw : (k : Int) < (ws.length : Int) := by omega
        have hob : b < w.heap.size := by
          obtain ⟨e1', _⟩ := HQ.out.at hkl
          exact World.block_lt_of_cell? _ _ e1'
        have HT : Hid (∀ w', Below (w.heap.size + 2) W w' → w'.cell? ⟨w.heap.size, 2, none⟩ = some (.slice (some ⟨b, o, none⟩) ws.length m) ∧ w'.cell? ⟨b, o + k * 2, none⟩ = some (.int .i64 s) ∧ w'.cell? ⟨b, o + k * 2 + 1, none⟩ = some (.slice pk xs.length ck)) := by
          intro w' h
          have hc : ∀ a : Addr, a.block < w.heap.size → w'.cell? a = wr.cell? a := fun a ha => (h.cell (by omega)).trans (hbk.cell (by omega)).symm
          exact ⟨(cells3 (HX.out _ h).1).2.2, by rw [hc _ hob]; exact e1, by rw [hc _ hob]; exact e2⟩
        clear hbi hpk hq hok hbx hres
        go_wp2
        have HT0 := HT.out _ hbk.drew
        have HS : wr.drew.cell? ⟨B0, 2, none⟩ = some (.slice qk k mk) := b2
        clear b0 b1 b2 x0 x1 x2 e1 e2
        refine wp_region_noPanic ?_
        refine beginZ (T := fun w' => w'.cell? ⟨w.heap.size, 2, none⟩ = some (.slice (some ⟨b, o, none⟩) ws.length m) ∧ w'.cell? ⟨b, o + k * 2, none⟩ = some (.int .i64 s) ∧ w'.cell? ⟨b, o + k * 2 + 1, none⟩ = some (.slice pk xs.length ck)) (S := fun w' => w'.cell? ⟨B0, 2, none⟩ = some (.slice qk k mk)) 19 (by kernel_rfl) ?_
        refine takeT 0 18 (v := ?_) rfl rfl (by kernel_rfl) (by kernel_rfl) (by kernel_rfl) (by kernel_rfl) (fun _ _ _ h => h) (by rfl) ?_ (by assumption) (by assumption) ?_
        rotate_left
        · intro w hTw; go_simp; first | done | with_reducible rfl
        simp only [Act.put, List.setIfInBounds_toArray, List.set_cons_zero, List.set_cons_succ]
        refine takeZ 1 19 17 (v := ?_) rfl rfl (by kernel_rfl) (by kernel_rfl) (by kernel_rfl) (by kernel_rfl) (by kernel_rfl) (by kernel_rfl) (by kernel_rfl) (fun _ _ _ h => h) (by rfl) ?_ (by assumption) (by assumption) ?_
        rotate_left
        · intro w hTw hSw; go_simp; first | done | with_reducible rfl
        simp only [Act.put, List.setIfInBounds_toArray, List.set_cons_zero, List.set_cons_succ]
        refine takeT 2 20 (v := ?_) rfl rfl (by kernel_rfl) (by kernel_rfl) (by kernel_rfl) (by kernel_rfl) (fun _ _ _ h => h) (by rfl) ?_ (by assumption) (by assumption) ?_
        rotate_left
        · intro w hTw; go_simp; first | done | with_reducible rfl
        simp only [Act.put, List.setIfInBounds_toArray, List.set_cons_zero, List.set_cons_succ]
        refine takeT 3 21 (v := ?_) rfl rfl (by kernel_rfl) (by kernel_rfl) (by kernel_rfl) (by kernel_rfl) (fun _ _ _ h => h) (by rfl) ?_ (by assumption) (by assumption) ?_
        rotate_left
        · intro w hTw; go_simp; first | done | with_reducible rfl
        simp only [Act.put, List.setIfInBounds_toArray, List.set_cons_zero, List.set_cons_succ]
        refine takeT 4 22 (v := ?_) rfl rfl (by kernel_rfl) (by kernel_rfl) (by kernel_rfl) (by kernel_rfl) (fun _ _ _ h => h) (by rfl) ?_ (by assumption) (by assumption) ?_
        rotate_left
        · intro w hTw; go_simp; first | done | with_reducible rfl
        simp only [Act.put, List.setIfInBounds_toArray, List.set_cons_zero, List.set_cons_succ]
        refine takeT 5 23 (v := ?_) rfl rfl (by kernel_rfl) (by kernel_rfl) (by kernel_rfl) (by kernel_rfl) (fun _ _ _ h => h) (by rfl) ?_ (by assumption) (by assumption) ?_
        rotate_left
        · intro w hTw; go_simp; first | done | with_reducible rfl
        simp only [Act.put, List.setIfInBounds_toArray, List.set_cons_zero, List.set_cons_succ]
        refine takeT 6 24 (v := ?_) rfl rfl (by kernel_rfl) (by kernel_rfl) (by kernel_rfl) (by kernel_rfl) (fun _ _ _ h => h) (by rfl) ?_ (by assumption) (by assumption) ?_
        rotate_left
        · intro w hTw; go_simp; first | done | with_reducible rfl
        simp only [Act.put, List.setIfInBounds_toArray, List.set_cons_zero, List.set_cons_succ]
        refine takeT 7 25 (v := ?_) rfl rfl (by kernel_rfl) (by kernel_rfl) (by kernel_rfl) (by kernel_rfl) (fun _ _ _ h => h) (by rfl) ?_ (by assumption) (by assumption) ?_
        rotate_left
        · intro w hTw; go_simp; first | done | with_reducible rfl
        simp only [Act.put, List.setIfInBounds_toArray, List.set_cons_zero, List.set_cons_succ]
        refine takeT 8 26 (v := ?_) rfl rfl (by kernel_rfl) (by kernel_rfl) (by kernel_rfl) (by kernel_rfl) (fun _ _ _ h => h) (by rfl) ?_ (by assumption) (by assumption) ?_
        rotate_left
        · intro w hTw; go_simp; first | done | with_reducible rfl
        simp only [Act.put, List.setIfInBounds_toArray, List.set_cons_zero, List.set_cons_succ]
        refine takeT 9 27 (v := ?_) rfl rfl (by kernel_rfl) (by kernel_rfl) (by kernel_rfl) (by kernel_rfl) (fun _ _ _ h => h) (by rfl) ?_ (by assumption) (by assumption) ?_
        rotate_left
        · intro w hTw; go_simp; first | done | with_reducible rfl
        simp only [Act.put, List.setIfInBounds_toArray, List.set_cons_zero, List.set_cons_succ]
        refine takeT 10 28 (v := ?_) rfl rfl (by kernel_rfl) (by kernel_rfl) (by kernel_rfl) (by kernel_rfl) (fun _ _ _ h => h) (by rfl) ?_ (by assumption) (by assumption) ?_
        rotate_left
        · intro w hTw; go_simp; first | done | with_reducible rfl
        simp only [Act.put, List.setIfInBounds_toArray, List.set_cons_zero, List.set_cons_succ]
        refine takeT 11 29 (v := ?_) rfl rfl (by kernel_rfl) (by kernel_rfl) (by kernel_rfl) (by kernel_rfl) (fun _ _ _ h => h) (by rfl) ?_ (by assumption) (by assumption) ?_
        rotate_left
        · intro w hTw; go_simp; first | done | with_reducible rfl
        simp only [Act.put, List.setIfInBounds_toArray, List.set_cons_zero, List.set_cons_succ]
        refine takeT 12 30 (v := ?_) rfl rfl (by kernel_rfl) (by kernel_rfl) (by kernel_rfl) (by kernel_rfl) (fun _ _ _ h => h) (by rfl) ?_ (by assumption) (by assumption) ?_
        rotate_left
        · intro w hTw; go_simp; first | done | with_reducible rfl
        simp only [Act.put, List.setIfInBounds_toArray, List.set_cons_zero, List.set_cons_succ]
        refine takeT 13 31 (v := ?_) rfl rfl (by kernel_rfl) (by kernel_rfl) (by kernel_rfl) (by kernel_rfl) (fun _ _ _ h => h) (by rfl) ?_ (by assumption) (by assumption) ?_
        rotate_left
        · intro w hTw; go_simp; first | done | with_reducible rfl
        simp only [Act.put, List.setIfInBounds_toArray, List.set_cons_zero, List.set_cons_succ]
        refine oneZ 14 (by kernel_rfl) rfl (by rfl) (fun K hK => ?_)
        go_simp
        refine (rbytes_any pk ck _ xs _ rfl (show BIn wr.drew pk xs from HBI.out) HPK.out HXL.out).mono ?_
        rintro e w2 ⟨xv, rfl, hxg, hb2⟩
        obtain ⟨px, cx, rfl, _⟩ := hxg.form
        have hbW2 : Below (w.heap.size + 2) W w2 := hbk.trans ((below_undrew hb2).mono hsz)
        go_simp
        refine hK.out _ _ (HT.out _ hbW2) (below_cell_some hb2 HS) (fun hTx hSx => ?_)
        clear hK K HT0 HS
        refine takeT 15 33 (v := ?_) rfl rfl (by kernel_rfl) (by kernel_rfl) (by kernel_rfl) (by kernel_rfl) (fun _ _ _ h => h) (by rfl) ?_ (by assumption) (by assumption) ?_
        rotate_left
        · intro w hTw; go_simp; first | done | with_reducible rfl
        simp only [Act.put, List.setIfInBounds_toArray, List.set_cons_zero, List.set_cons_succ]
        refine oneZ 16 (by kernel_rfl) rfl (by rfl) (fun K hK => ?_)
        go_simp
        refine hK.out _ _ (HT.out _ (hbW2.alloc (by have := hb2.size; simp at *; omega) _)) (below_cell_some (below_alloc w2 _) hSx) (fun hTy hSy => ?_)
        clear hK K hTx hSx
        refine oneZ 17 (by kernel_rfl) rfl (by rfl) (fun K hK => ?_)
        have hok2 := HOK.out.below (below_undrew hb2)
        refine step_append_lies _ (by rfl) (.tmp 19) (.tmp 34) 23 (by rfl) (w.heap.size + 2) 45 i0 _ 2 32 Tryz.underlying23 hi hz0 hz1 hz2 rfl (by omega) (.slice qk k mk) k (cellsV (ws.take k) vk) (by rfl) (rowG_at HK.out (hok2.puts.below (below_alloc w2 _))) ⟨w2.heap.size, 0, none⟩ 1 1 [.int .i64 s, .slice px xs.length cx] (by rfl) (by rfl) (World.news_of_block (cs := #[.int .i64 s, .slice px xs.length cx]) (t := 45) (fr := (0, 0)) (heap_alloc_new w2 _)) (rowG_oneCell hxg _) (by omega) (by unfold maxLen; omega) (by omega) (by have := hb2.size; rw [World.size_alloc]; simp at *; omega) (w2.heap.size + 1) (by simp) ?_
        intro g' cap' w4 hown4 hgrow hat hlt4
        have hbW4 : Below (w.heap.size + 2) W w4 := (hbW2.alloc (by have := hb2.size; simp at *; omega) _).grown hgrow (by rw [World.size_alloc]; have := hb2.size; simp at *; omega) (fun x hx => (hok2.puts.row.lt x hx).1)
        have HN2 : Hid (some B0 ≠ (Value.slice qk k mk).ownBlock) := HOK.out.puts.apart (by decide) HOK.out.box
        refine hK.out _ _ (HT.out _ hbW4) (hgrow.cell hSy HN2.out) (fun hTx hSx => ?_)
        clear hK K hTy hSy hat hlt4
        show wpAnyZ _ _ _ _ _ _ _ _ _ (Act.put _ (some 35) _) _
        simp only [Act.put, List.setIfInBounds_toArray, List.set_cons_zero, List.set_cons_succ]
        refine takeT 18 36 (v := ?_) rfl rfl (by kernel_rfl) (by kernel_rfl) (by kernel_rfl) (by kernel_rfl) (fun _ _ _ h => h) (by rfl) ?_ (by assumption) (by assumption) ?_
        rotate_left
        · intro w hTw; go_simp; first | done | with_reducible rfl
        simp only [Act.put, List.setIfInBounds_toArray, List.set_cons_zero, List.set_cons_succ]
        refine lastZ (by kernel_rfl) rfl (by rfl) (fun K hK => ?_)
        have hpd := hok2.pushed (s := s) (n := k + 1) (hxg.mono (show w.heap.size + 2 ≤ wr.drew.heap.size from hsz)) (by rw [HK.out]) hown4 hgrow
        have hbx : w4.heap[B0]? = some (.cells #[.int .i64 count, .slice pd data.length cd, .slice qk k mk] 25 (0, 0)) := (hgrow.block _ (by have := lt_heap hok2.box; rw [World.size_alloc]; omega) HN2.out).trans (((below_alloc w2 _).block _ (lt_heap hok2.box)).trans hok2.box)
        have hfr := frozen_of_row w4 B0 2 _ _ hbx
        have HPD : Hid _ := hpd
        clear hbx hpd
        go_simp
        refine hK.out _ _ (HT.out _ (hbW4.setCell HOK.out.hB _)) ?_
        clear hK K
        refine doneZ (by kernel_rfl) (NoPanic.normal ?_) _
        go_wp2
        go_roundw
        case rel => exact ⟨k + 1, _, _, vk ++ [_], by omega, by go_num, by rw [HTK.out]; exact HPD.out, hbW4.setCell HOK.out.hB _⟩
        case measure => simp [intOf]; omega
      · obtain rfl : k = ws.length := by omega
        rw [List.take_length] at hok
        have HV : Hid (DiskV wr w.heap.size (.agg #[.int .i64 count, .slice pd data.length cd, .slice qk ws.length mk]) count data ws) := hok.toV.mono (by omega)
        obtain ⟨r0, r1, r2⟩ := cells3 hres
        obtain ⟨f0, f1, f2⟩ := free3 hres
        have HR : Hid _ := hres
        clear hok hres hbx HG0
        go_wp2
        (try simp only [Exit.inBlock, Exit.then])
        refine bodyPost_ret (v := .agg #[.int .i64 count, .slice pd data.length cd, .slice qk ws.length mk]) ?_ rfl ⟨⟨_, rfl, HV.out.set3 HR.out _ _ _⟩, set3_below hbw (by omega) _ _ _⟩
        rw [results_cell_one rfl]
        go_simp
end Go.Proofs.YthifpelappedcaaGreatDoor
