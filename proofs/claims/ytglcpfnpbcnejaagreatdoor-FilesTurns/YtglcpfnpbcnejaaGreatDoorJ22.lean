/-
  A slot that is written anew and broken off, with no program: it holds what it held, or the new directory, or none.
-/
import Derived.Test.YtglcpfnpbcnejaaGreatDoorJ21
import Derived.Test.YtglcpfnpbcnejaaGreatDoorJ20
namespace Go.Proofs.YtglcpfnpbcnejaaGreatDoor
open Go.RowKit Go.WideShapes Rm

structure CV where
  key : ByteArray
  val : ByteArray
  gone : Bool
def zeroCV : CV := ⟨ByteArray.empty, ByteArray.empty, false⟩
def CsIn (w : World) (q : Option Addr) (l : List CV) : Prop :=
  0 < l.length → ∃ b o, q = some ⟨b, o, none⟩ ∧ ∀ i, i < l.length → w.cell? ⟨b, o + i * 3, none⟩ = some (.string (l.getD i zeroCV).key) ∧ w.cell? ⟨b, o + (i * 3 + 1), none⟩ = some (.string (l.getD i zeroCV).val) ∧ w.cell? ⟨b, o + (i * 3 + 2), none⟩ = some (.bool (l.getD i zeroCV).gone)
theorem cellB {w w' : World} {a : Addr} {v : Value} (h : w.cell? a = some v) (hb : Below w.heap.size w w') : w'.cell? a = some v := (hb.cell (World.block_lt_of_cell? _ _ h)).trans h
theorem CsIn.below {w w' : World} {q : Option Addr} {l : List CV} (h : CsIn w q l) (hb : Below w.heap.size w w') : CsIn w' q l := by
  intro hp
  obtain ⟨b, o, rfl, hc⟩ := h hp
  refine ⟨b, o, rfl, fun i hi => ?_⟩
  obtain ⟨e0, e1, e2⟩ := hc i hi
  exact ⟨cellB e0 hb, cellB e1 hb, cellB e2 hb⟩
theorem CsIn.addr {w : World} {q : Option Addr} {l : List CV} (h : CsIn w q l) (hw : 0 < l.length) : ∃ b o, q = some ⟨b, o, none⟩ := by
  obtain ⟨b, o, e, _⟩ := h hw
  exact ⟨b, o, e⟩
theorem CsIn.at {w : World} {b o : Nat} {l : List CV} (h : CsIn w (some ⟨b, o, none⟩) l) {k : Nat} (hk : k < l.length) :
    w.cell? ⟨b, o + k * 3, none⟩ = some (.string (l.getD k zeroCV).key) ∧ w.cell? ⟨b, o + k * 3 + 1, none⟩ = some (.string (l.getD k zeroCV).val) ∧ w.cell? ⟨b, o + k * 3 + 2, none⟩ = some (.bool (l.getD k zeroCV).gone) := by
  obtain ⟨b', o', e, hc⟩ := h (by omega)
  simp only [Option.some.injEq, Addr.mk.injEq, and_true] at e
  obtain ⟨rfl, rfl⟩ := e
  obtain ⟨h1, h2, h3⟩ := hc k hk
  exact ⟨h1, by rw [Nat.add_assoc]; exact h2, by rw [Nat.add_assoc]; exact h3⟩
theorem CsIn.take {w : World} {q : Option Addr} {l : List CV} (h : CsIn w q l) (k : Nat) : CsIn w q (l.take k) := by
  intro hp
  rw [List.length_take] at hp
  obtain ⟨b, o, e, hc⟩ := h (by omega)
  refine ⟨b, o, e, fun i hi => ?_⟩
  rw [List.length_take] at hi
  have hg : (l.take k).getD i zeroCV = l.getD i zeroCV := by rw [List.getD_eq_getElem?_getD, List.getElem?_take_of_lt (by omega), List.getD_eq_getElem?_getD]
  rw [hg]
  exact hc i (by omega)
/-- Is a name in changes? -/
def namedC (l : List CV) (name : ByteArray) : Bool := l.any fun c => decide (c.key = name)
theorem named_hit {l : List CV} {name : ByteArray} {k : Nat} (hk : k < l.length) (h : (l.getD k zeroCV).key = name) : namedC l name = true := by
  unfold namedC
  rw [List.any_eq_true]
  refine ⟨l.getD k zeroCV, ?_, decide_eq_true h⟩
  rw [List.getD_eq_getElem?_getD, List.getElem?_eq_getElem hk]
  exact List.getElem_mem _
theorem named_miss {l : List CV} {name : ByteArray} (h : ∀ j, j < l.length → (l.getD j zeroCV).key ≠ name) : namedC l name = false := by
  unfold namedC
  rw [List.any_eq_false]
  intro x hx
  obtain ⟨j, hj, rfl⟩ := List.getElem_of_mem hx
  have := h j hj
  rw [List.getD_eq_getElem?_getD, List.getElem?_eq_getElem hj] at this
  simpa using this
set_option maxRecDepth 8000 in
set_option maxHeartbeats 2000000 in
theorem index_named (q : Option Addr) (n c nb : Nat) (l : List CV) (name : ByteArray) (w : World) (hq : CsIn w q l) (hn0 : n = l.length) (hnb : (n : Int) ≤ 9223372036854775807) (hn : w.cell? ⟨nb, 0, none⟩ = some (.string name)) (r : Bool) (hr : namedC l name = r) :
    Calls Tryz.prog 155 #[.slice q n c, .func (.func 133) #[] #[.pointer (some ⟨nb, 0, none⟩)]] w fun e w' => ∃ i : Int, e = .returned (.int .i64 i) ∧ (0 ≤ i ↔ r = true) ∧ Below w.heap.size w w' := by
  have HL : Hid (n = l.length) := hn0
  have HQ : Hid (CsIn w q l) := hq
  have HN : Hid (w.cell? ⟨nb, 0, none⟩ = some (.string name)) := hn
  have HR : Hid (namedC l name = r) := hr
  clear hq hn hn0 hr
  go_enter Tryz.func155, Tryz.ntmps155
  go_wp2
  go_loopw [8] (fun i wr => ∃ k : Nat, k ≤ n ∧ i = .int .i64 (k : Int) ∧ (∀ j, j < k → (l.getD j zeroCV).key ≠ name) ∧ Below w.heap.size w wr) (fun i _ => n - (intOf i).toNat)
  case atStart => exact ⟨0, by omega, rfl, fun j hj => absurd hj (by omega), Below.refl _ _⟩
  case round =>
    obtain ⟨k, hk, rfl, hz, hbw⟩ := hrel
    have HZ : Hid (∀ j, j < k → (l.getD j zeroCV).key ≠ name) := hz
    have HB : Hid (Below w.heap.size w wr) := hbw
    clear hz
    by_cases hkl : k < n
    · have hkI : (k : Int) < (n : Int) := by omega
      have k0 : (0 : Int) ≤ (k : Int) := by omega
      have hkl2 : k < l.length := by have := HL.out; omega
      have hen := HQ.out.below hbw
      obtain ⟨fb, fo, rfl⟩ := hen.addr (by omega)
      obtain ⟨z0, z1, z2⟩ := hen.at hkl2
      have zn := cellB HN.out hbw
      have hnlt : nb < wr.heap.size := World.block_lt_of_cell? _ _ zn
      have hne : nb ≠ wr.heap.size := by omega
      have znA : ∀ a : ByteArray, ∀ b : ByteArray, ∀ g : Bool, (wr.alloc (.cells #[.string a, .string b, .bool g] 40)).cell? ⟨nb, 0, none⟩ = some (.string name) := fun a b g => cellB zn (below_alloc wr _)
      have HKL : Hid (k < n) := hkl
      have HHIT : Hid ((l.getD k zeroCV).key = name → r = true) := fun h => by rw [← HR.out]; exact named_hit hkl2 h
      have HNEXT : Hid ((l.getD k zeroCV).key ≠ name → ∀ j, j < k + 1 → (l.getD j zeroCV).key ≠ name) := fun h j hj => by
        rcases Nat.lt_or_ge j k with h' | h'
        · exact HZ.out j h'
        · obtain rfl : j = k := by omega
          exact h
      obtain ⟨⟨ck, cv, cg⟩, hc⟩ : ∃ f, l.getD k zeroCV = f := ⟨_, rfl⟩
      rw [hc] at z0 z1 z2 HHIT HNEXT
      simp only at z0 z1 z2 HHIT HNEXT
      have znB := znA ck cv cg
      clear znA hen hkl hkl2 hk hbw hc HZ hnlt
      by_cases g : ck = name
      · have HH : Hid (r = true) := HHIT.out g
        subst g
        clear HHIT HNEXT
        go_wp2
        go_ret
        exact ⟨(k : Int), rfl, ⟨fun _ => HH.out, fun _ => by omega⟩, HB.out.alloc HB.out.size _⟩
      · have HNX : Hid _ := HNEXT.out g
        have hne2 : (ck.toList == name.toList) = false := by rw [eq_strF]; simpa using g
        clear HHIT HNEXT
        go_wp2
        go_roundw
        case rel => exact ⟨k + 1, HKL.out, by go_num, HNX.out, HB.out.alloc HB.out.size _⟩
        case measure => have := HKL.out; simp [intOf]; omega
    · have hkI : (n : Int) ≤ (k : Int) := by omega
      have HM : Hid (r = false) := by
        show r = false
        rw [← HR.out]
        exact named_miss (fun j hj => HZ.out j (by have := HL.out; omega))
      clear HZ hkl
      go_wp2
      go_ret
      refine ⟨-1, rfl, ⟨fun h => by omega, fun h => ?_⟩, HB.out⟩
      rw [HM.out] at h
      cases h
set_option maxRecDepth 8000 in
set_option maxHeartbeats 2000000 in
theorem named_any4 (q : Option Addr) (n c : Nat) (l : List CV) (name : ByteArray) (w : World) (hq : CsIn w q l) (hn0 : n = l.length) (hnb : (n : Int) ≤ 9223372036854775807) (r : Bool) (hr : namedC l name = r) :
    Calls Tryz.prog 105 #[.slice q n c, .string name] w fun e w' => e = .returned (.bool r) ∧ Below w.heap.size w w' := by
  have hmf : ∀ (fn : Fn) (first cap : Array Value) (w : World), (Instr.makeFunc fn first cap).run Tryz.prog w = .ok (.func fn first cap) w := fun _ _ _ _ => rfl
  have hix := index_named q n c w.heap.size l name (w.alloc (.cells #[.string name] 9)) (hq.below (below_alloc w _)) hn0 hnb (by simp) r hr
  have hct : Calls Tryz.prog 132 #[.slice q n c, .func (.func 133) #[] #[.pointer (some ⟨w.heap.size, 0, none⟩)]] (w.alloc (.cells #[.string name] 9)) fun e w' => e = .returned (.bool r) ∧ Below w.heap.size w w' := by
    clear hq hn0 hnb hr
    go_enter Tryz.func132, Tryz.ntmps132
    go_wp2_with fail
    refine hix.mono ?_
    rintro e w2 ⟨i, rfl, hi, hb2⟩
    have HB : Hid (Below w.heap.size w w2) := below_bt (below_alloc w _) hb2
    cases r with
    | true =>
      have h0 : 0 ≤ i := hi.2 rfl
      clear hb2 hix hi
      go_wp2
      go_ret
      exact ⟨by simp, HB.out⟩
    | false =>
      have h0 : i < 0 := by
        rcases Int.lt_or_le i 0 with h | h
        · exact h
        · exact absurd (hi.1 h) (by simp)
      clear hb2 hix hi
      go_wp2
      go_ret
      exact ⟨by simp; omega, HB.out⟩
  clear hix hq hn0 hnb hr
  go_enter Tryz.func105, Tryz.ntmps105
  go_wp2_with fail
  refine hct.mono ?_
  rintro e w2 ⟨rfl, hb2⟩
  have HB : Hid (Below w.heap.size w w2) := hb2
  clear hb2 hct
  go_wp2
  go_ret
  exact ⟨rfl, HB.out⟩
/-! ### A row of changes of one's own -/
def cellsC (l : List CV) : List Value := l.flatMap fun x => [.string x.key, .string x.val, .bool x.gone]
theorem cellsC_len (l : List CV) : (cellsC l).length = l.length * 3 := by
  induction l with
  | nil => rfl
  | cons x l ih => simp only [cellsC, List.flatMap_cons, List.length_append, List.length_cons, List.length_nil] at *; omega
theorem cellsC_app (l m : List CV) : cellsC (l ++ m) = cellsC l ++ cellsC m := by simp [cellsC]
theorem cellsC_at : ∀ (l : List CV) (i : Nat), i < l.length → (cellsC l)[i * 3]? = some (.string (l.getD i zeroCV).key) ∧ (cellsC l)[i * 3 + 1]? = some (.string (l.getD i zeroCV).val) ∧ (cellsC l)[i * 3 + 2]? = some (.bool (l.getD i zeroCV).gone)
  | [], i, h => by simp at h
  | x :: l, 0, _ => ⟨rfl, rfl, rfl⟩
  | x :: l, i + 1, h => by
    obtain ⟨h0, h1, h2⟩ := cellsC_at l i (by simpa using h)
    have e : cellsC (x :: l) = [.string x.key, .string x.val, .bool x.gone] ++ cellsC l := rfl
    rw [e, List.getD_cons_succ]
    refine ⟨?_, ?_, ?_⟩
    · rw [List.getElem?_append_right (by simp; omega)]; simpa [show (i + 1) * 3 - 3 = i * 3 by omega] using h0
    · rw [List.getElem?_append_right (by simp; omega)]; simpa [show (i + 1) * 3 + 1 - 3 = i * 3 + 1 by omega] using h1
    · rw [List.getElem?_append_right (by simp; omega)]; simpa [show (i + 1) * 3 + 2 - 3 = i * 3 + 2 by omega] using h2
def COwn (w : World) (base : Nat) (v : Value) (l : List CV) : Prop := w.ownsRow base 40 3 v l.length (cellsC l)
theorem cown_nil (w : World) (base : Nat) : COwn w base (.slice none 0 0) [] := World.ownsRow_nil _ _ _ _
theorem COwn.cs {w : World} {base : Nat} {q : Option Addr} {n m : Nat} {l : List CV} (h : COwn w base (.slice q n m) l) : CsIn w q l := by
  intro hp
  rcases h.2 with ⟨_, hn⟩ | ⟨g, cap, cur, hv, hb, hg, hle, hmax, hsz, htk⟩
  · omega
  · simp only [Value.slice.injEq] at hv
    obtain ⟨rfl, rfl, rfl⟩ := hv
    refine ⟨g, 0, rfl, fun i hi => ?_⟩
    obtain ⟨c0, c1, c2⟩ := cellsC_at l i hi
    have hc : ∀ j, j < l.length * 3 → w.cell? ⟨g, 0 + j, none⟩ = (cellsC l)[j]? := fun j hj => by
      rw [cell_of_row w g (0 + j) cur _ _ hg, Nat.zero_add, ← htk, List.getElem?_take_of_lt hj]
      simp
    exact ⟨by rw [hc _ (by omega), c0], by rw [hc _ (by omega), c1], by rw [hc _ (by omega), c2]⟩
theorem COwn.below {w w' : World} {base : Nat} {v : Value} {l : List CV} (h : COwn w base v l) (hb : Below w.heap.size w w') : COwn w' base v l := own_below h hb
end Go.Proofs.YtglcpfnpbcnejaaGreatDoor
namespace Go.Proofs.YtglcpfnpbcnejaaGreatDoor
open Go.RowKit Go.WideShapes Rm

theorem info_change : (Tryz.prog.info? 40).map (fun i => (i.zero, i.size, i.bytes)) = some (some (.agg #[.string ⟨#[]⟩, .string ⟨#[]⟩, .bool false]), 3, 40) := by kernel_rfl
theorem run_append_change (w : World) (ty : TypeId) (base : Nat) (v : Value) (ls : List CV) (x : CV) (ad : Addr) (c : Nat) (hown : COwn w base v ls)
    (h0 : w.cell? (ad.add 0) = some (.string x.key)) (h1 : w.cell? (ad.add 1) = some (.string x.val)) (h2 : w.cell? (ad.add 2) = some (.bool x.gone)) (hlen : ls.length ≤ 1000000) (hbase : base ≤ w.heap.size) :
    ∃ v' w', (Builtin.append_ #[43, 43] ty #[v, .slice (some ad) 1 c]).run Tryz.prog w = .ok v' w' ∧ COwn w' base v' (ls ++ [x]) ∧ w.grownBy w' v.ownBlock := by
  obtain ⟨i0, hi, hz0, hz1, hz2⟩ := info_parts' info_change
  have hcs : ∀ j u, (cellsC [x])[j]? = some u → w.cell? (ad.add j) = some u := by
    intro j u hu
    rcases j with _ | _ | _ | j
    · simp [cellsC] at hu; rw [h0, hu]
    · simp [cellsC] at hu; rw [h1, hu]
    · simp [cellsC] at hu; rw [h2, hu]
    · simp [cellsC] at hu
  have hone : ∀ u ∈ cellsC [x], u.oneCell' = true := by
    intro u hu
    simp [cellsC] at hu
    rcases hu with rfl | rfl | rfl
    · rfl
    · rfl
    · rfl
  obtain ⟨v', w', g1, g2, g3, _⟩ := run_append_own (P := Tryz.prog) w base 43 ty 40 i0 _ 3 40 Tryz.underlying43 hi hz0 hz1 hz2 rfl (by decide) v ls.length (cellsC ls) hown ad 1 c (cellsC [x]) rfl hcs hone (by unfold maxLen; omega) (by omega) hbase
  refine ⟨v', w', g1, ?_, g3⟩
  unfold COwn
  rw [cellsC_app, List.length_append]
  exact g2
theorem wpList_append_change (w : World) {ops : Array Oper} {rest : List Oper} {o : Oper} {a : Act} {Q : Exit → Act → World → Prop} (hgd : o.guard = none) (s x : Operand)
    (ho : o.op = .call { callee := .builtin .append, args := #[s, x], argTypes := #[43, 43] }) (base : Nat) (v : Value) (ls : List CV) (y : CV) (ad : Addr) (c : Nat) (hs : a.eval s = v) (hx : a.eval x = .slice (some ad) 1 c)
    (hown : COwn w base v ls) (h0 : w.cell? (ad.add 0) = some (.string y.key)) (h1 : w.cell? (ad.add 1) = some (.string y.val)) (h2 : w.cell? (ad.add 2) = some (.bool y.gone)) (hlen : ls.length ≤ 1000000) (hbase : base ≤ w.heap.size)
    (h : ∀ v' w', COwn w' base v' (ls ++ [y]) → w.grownBy w' v.ownBlock → wpList Tryz.prog ops Q rest (a.put o.dst v') w') : wpList Tryz.prog ops Q (o :: rest) a w := by
  refine wpList_plain hgd fun K hK => ?_
  obtain ⟨v', w', hr, g2, g3⟩ := run_append_change w o.type base v ls y ad c hown h0 h1 h2 hlen hbase
  unfold Oper.wp execOp
  simp only [ho, resolve, invoke, builtin, Sem.run_bind, Sem.run_pure, Result.andThen_ok, List.map_toArray, List.map_cons, List.map_nil, hs, hx, hr]
  exact hK _ _ (h v' w' g2 g3)
/-- The changes that put a file. -/
def putsC (l : List CV) : List CV := l.filter fun c => !c.gone
theorem putsC_yes {l : List CV} {k : Nat} (h : k < l.length) (hg : (l.getD k zeroCV).gone = false) : putsC (l.take (k + 1)) = putsC (l.take k) ++ [l.getD k zeroCV] := by
  rw [take_snoc (d := zeroCV) h]
  unfold putsC
  rw [List.filter_append]
  congr 1
  simp only [List.filter_cons, hg, List.filter_nil]
  rfl
theorem putsC_no {l : List CV} {k : Nat} (h : k < l.length) (hg : (l.getD k zeroCV).gone = true) : putsC (l.take (k + 1)) = putsC (l.take k) := by
  rw [take_snoc (d := zeroCV) h]
  unfold putsC
  rw [List.filter_append]
  simp only [List.filter_cons, hg, List.filter_nil]
  simp
theorem putsC_len (l : List CV) (k : Nat) : (putsC (l.take k)).length ≤ l.length := by
  have h1 := List.length_filter_le (fun c : CV => !c.gone) (l.take k)
  have h2 := List.length_take_le k l
  unfold putsC
  have : (l.take k).length ≤ l.length := by rw [List.length_take]; omega
  omega
structure OnC (w0 : World) (v : Value) (l : List CV) (wr : World) : Prop where
  own : COwn wr w0.heap.size v l
  bel : Below w0.heap.size w0 wr
theorem OnC.app {w0 wr w' : World} {v v' : Value} {l m : List CV} (h : OnC w0 v l wr) (hg : wr.grownBy w' v.ownBlock) (ho : COwn w' w0.heap.size v' m) : OnC w0 v' m w' :=
  ⟨ho, h.bel.grown hg h.bel.size (fun k hk => (World.ownsRow.lt h.own k hk).1)⟩
theorem OnC.next {w0 wr w' : World} {v : Value} {l : List CV} (h : OnC w0 v l wr) (hb : Below wr.heap.size wr w') : OnC w0 v l w' := ⟨own_below h.own hb, below_bt h.bel hb⟩
set_option maxRecDepth 8000 in
set_option maxHeartbeats 2000000 in
theorem putting_any (q : Option Addr) (n c : Nat) (l : List CV) (w : World) (hq : CsIn w q l) (hn0 : n = l.length) (hnb : n ≤ 1000) :
    Calls Tryz.prog 69 #[.slice q n c] w fun e w' => ∃ v, e = .returned v ∧ OnC w v (putsC l) w' := by
  have HL : Hid (n = l.length) := hn0
  have HQ : Hid (CsIn w q l) := hq
  have hnI : (n : Int) ≤ 1000 := by omega
  clear hq hn0
  go_enter Tryz.func69, Tryz.ntmps69
  go_wp2
  go_loopw [3, 8] (fun v i wr => ∃ k : Nat, k ≤ n ∧ i = .int .i64 (k : Int) ∧ OnC w v (putsC (l.take k)) wr) (fun _ i _ => n - (intOf i).toNat)
  case atStart => exact ⟨0, by omega, rfl, cown_nil _ _, Below.refl _ _⟩
  case round =>
    obtain ⟨k, hk, rfl, hz⟩ := hrel
    obtain ⟨vq, vm, rfl, _, _, _⟩ := own_form hz.own
    obtain ⟨P, hP⟩ : ∃ P, putsC (l.take k) = P := ⟨_, rfl⟩
    have HPL : Hid (P.length ≤ 1000) := by have := putsC_len l k; rw [hP] at this; have := HL.out; show _ ≤ _; omega
    have HP : Hid (putsC (l.take k) = P) := hP
    rw [hP] at hz ⊢
    have HZ : Hid (OnC w (.slice vq P.length vm) P wr) := hz
    obtain ⟨lp, hlp⟩ : ∃ lp, P.length = lp := ⟨_, rfl⟩
    have HLP : Hid (P.length = lp) := hlp
    rw [hlp] at HZ ⊢
    clear hP hlp hz
    by_cases hkl : k < n
    · have hkI : (k : Int) < (n : Int) := by omega
      have k0 : (0 : Int) ≤ (k : Int) := by omega
      have hkl2 : k < l.length := by have := HL.out; omega
      have hen := HQ.out.below HZ.out.bel
      obtain ⟨fb, fo, rfl⟩ := hen.addr (by omega)
      obtain ⟨z0, z1, z2⟩ := hen.at hkl2
      have HKL : Hid (k < n) := hkl
      have HY : Hid ((l.getD k zeroCV).gone = false → putsC (l.take (k + 1)) = P ++ [l.getD k zeroCV]) := fun h => by rw [putsC_yes hkl2 h, HP.out]
      have HN : Hid ((l.getD k zeroCV).gone = true → putsC (l.take (k + 1)) = P) := fun h => by rw [putsC_no hkl2 h, HP.out]
      obtain ⟨⟨ck, cv, cg⟩, hc⟩ : ∃ f, l.getD k zeroCV = f := ⟨_, rfl⟩
      rw [hc] at z0 z1 z2 HY HN
      simp only at z0 z1 z2 HY HN
      clear hen hkl hkl2 hk hc HP
      cases cg with
      | true =>
        have HN1 : Hid (putsC (l.take (k + 1)) = P) := HN.out rfl
        clear HY HN
        go_wp2
        go_roundw
        case rel => exact ⟨k + 1, HKL.out, by go_num, by rw [HN1.out]; exact HZ.out.next (below_alloc _ _)⟩
        case measure => have := HKL.out; simp [intOf]; omega
      | false =>
        have HY1 : Hid (putsC (l.take (k + 1)) = P ++ [⟨ck, cv, false⟩]) := HY.out rfl
        clear HY HN
        have H1 : Hid (OnC w (.slice vq lp vm) P ((wr.alloc (.cells #[.string ck, .string cv, .bool false] 40)).alloc (.cells #[.string ck, .string cv, .bool false] 40))) := (HZ.out.next (below_alloc _ _)).next (below_alloc _ _)
        have HC := new3 (wr.alloc (.cells #[.string ck, .string cv, .bool false] 40)) (.string ck) (.string cv) (.bool false) 40 (wr.heap.size + 1) (by simp)
        have HC1 : Hid _ := HC
        clear HC
        go_wp2_with (at_builtin; go_loud ((refine wpList_append_change _ rfl _ _ rfl w.heap.size (.slice vq lp vm) P ⟨ck, cv, false⟩ ⟨wr.heap.size + 1, 0, none⟩ 1 rfl rfl H1.out.own HC1.out.1 HC1.out.2.1 HC1.out.2.2 (by have := HPL.out; omega) H1.out.bel.size ?_); intro v5 w5 ho5 hg5; have H5 : Hid (OnC w v5 (P ++ [⟨ck, cv, false⟩]) w5) := H1.out.app hg5 ho5; clear ho5 hg5))
        go_roundw
        case rel => exact ⟨k + 1, HKL.out, by go_num, by rw [HY1.out]; exact H5.out⟩
        case measure => have := HKL.out; simp [intOf]; omega
    · have hkI : (n : Int) ≤ (k : Int) := by omega
      have HM : Hid (P = putsC l) := by
        show P = _
        rw [← HP.out, List.take_of_length_le (by have := HL.out; omega)]
      clear hkl
      go_wp2
      go_ret
      exact ⟨_, rfl, by rw [← HM.out]; exact HZ.out⟩
end Go.Proofs.YtglcpfnpbcnejaaGreatDoor
namespace Go.Proofs.YtglcpfnpbcnejaaGreatDoor
open Go.RowKit Go.WideShapes Rm

/-- A row of files of one's own from base on, their pieces from base0 on. -/
structure FMix (w : World) (base base0 : Nat) (v : Value) (ls : FPs) : Prop where
  row : w.ownsRow base 51 3 v ls.length (cellsF ls)
  pcs : ∀ x ∈ ls, POwn w base0 x.2 x.1.pcs
def zeroFP : FileV × Value := (zeroF, .slice none 0 0)
theorem FOwn.mix {w : World} {base : Nat} {v : Value} {ls : FPs} (h : FOwn w base v ls) : FMix w base base v ls := ⟨h.row, h.pcs⟩
theorem FMix.own {w : World} {base base0 : Nat} {v : Value} {ls : FPs} (h : FMix w base base0 v ls) (hb : base0 ≤ base) : FOwn w base0 v ls := ⟨own_mono h.row hb, h.pcs⟩
theorem FMix.below {w w' : World} {base base0 : Nat} {v : Value} {ls : FPs} (h : FMix w base base0 v ls) (hb : Below w.heap.size w w') : FMix w' base base0 v ls := ⟨own_below h.row hb, fun x hx => (h.pcs x hx).below hb⟩
theorem fmix_nil (w : World) (base base0 : Nat) : FMix w base base0 (.slice none 0 0) [] := ⟨World.ownsRow_nil _ _ _ _, fun x hx => by simp at hx⟩
theorem FMix.form {w : World} {base base0 : Nat} {v : Value} {ls : FPs} (h : FMix w base base0 v ls) : ∃ q m, v = .slice q ls.length m ∧ ls.length ≤ m ∧ m ≤ maxLen ∧ (q = none → m = 0) := own_form h.row
theorem getD_fp {ls : FPs} {k : Nat} (hk : k < ls.length) : ls[k]? = some (ls.getD k zeroFP) ∧ ls.getD k zeroFP ∈ ls := by
  rw [List.getD_eq_getElem?_getD, List.getElem?_eq_getElem hk]
  exact ⟨rfl, List.getElem_mem _⟩
theorem FMix.at {w : World} {base base0 n m : Nat} {q : Option Addr} {ls : FPs} (h : FMix w base base0 (.slice q n m) ls) {k : Nat} (hk : k < ls.length) : ∃ g, q = some ⟨g, 0, none⟩ ∧ w.cell? ⟨g, 0 + k * 3, none⟩ = some (.string (ls.getD k zeroFP).1.name) ∧ w.cell? ⟨g, 0 + k * 3 + 1, none⟩ = some (.int .i64 (ls.getD k zeroFP).1.size) ∧ w.cell? ⟨g, 0 + k * 3 + 2, none⟩ = some (ls.getD k zeroFP).2 ∧ POwn w base0 (ls.getD k zeroFP).2 (ls.getD k zeroFP).1.pcs := by
  rcases h.row.2 with ⟨_, hn⟩ | ⟨g, cap, cur, hv, hb, hg, hle, hmax, hsz, htk⟩
  · omega
  · simp only [Value.slice.injEq] at hv
    obtain ⟨rfl, rfl, rfl⟩ := hv
    obtain ⟨c0, c1, c2⟩ := cellsF_at ls k _ (getD_fp hk).1
    have hc : ∀ j, j < ls.length * 3 → w.cell? ⟨g, 0 + j, none⟩ = (cellsF ls)[j]? := fun j hj => by
      rw [cell_of_row w g (0 + j) cur _ _ hg, Nat.zero_add, ← htk, List.getElem?_take_of_lt hj]
      simp
    exact ⟨g, rfl, by rw [hc _ (by omega), c0], by rw [Nat.add_assoc, hc _ (by omega), c1], by rw [Nat.add_assoc, hc _ (by omega), c2], h.pcs _ (getD_fp hk).2⟩
theorem run_append_mix (w : World) (ty : TypeId) (base base0 : Nat) (v : Value) (ls : FPs) (x : FileV × Value) (ad : Addr) (c : Nat) (hown : FMix w base base0 v ls) (hx : x.2.oneCell' = true) (hp : POwn w base0 x.2 x.1.pcs)
    (h0 : w.cell? (ad.add 0) = some (.string x.1.name)) (h1 : w.cell? (ad.add 1) = some (.int .i64 x.1.size)) (h2 : w.cell? (ad.add 2) = some x.2) (hlen : ls.length ≤ 1000000) (hbase : base ≤ w.heap.size) :
    ∃ v' w', (Builtin.append_ #[29, 29] ty #[v, .slice (some ad) 1 c]).run Tryz.prog w = .ok v' w' ∧ FMix w' base base0 v' (ls ++ [x]) ∧ w.grownBy w' v.ownBlock := by
  obtain ⟨i0, hi, hz0, hz1, hz2⟩ := info_parts' info_file
  have hcs : ∀ j u, (cellsF [x])[j]? = some u → w.cell? (ad.add j) = some u := by
    intro j u hu
    rcases j with _ | _ | _ | j
    · simp [cellsF] at hu; rw [h0, hu]
    · simp [cellsF] at hu; rw [h1, hu]
    · simp [cellsF] at hu; rw [h2, hu]
    · simp [cellsF] at hu
  have hone : ∀ u ∈ cellsF [x], u.oneCell' = true := by
    intro u hu
    simp [cellsF] at hu
    rcases hu with rfl | rfl | rfl
    · rfl
    · rfl
    · exact hx
  obtain ⟨v', w', g1, g2, g3, _⟩ := run_append_own (P := Tryz.prog) w base 29 ty 51 i0 _ 3 48 Tryz.underlying29 hi hz0 hz1 hz2 rfl (by decide) v ls.length (cellsF ls) hown.row ad 1 c (cellsF [x]) rfl hcs hone (by unfold maxLen; omega) (by omega) hbase
  refine ⟨v', w', g1, ⟨?_, fun y hy => ?_⟩, g3⟩
  · rw [cellsF_app, List.length_append]
    exact g2
  · have hy' : POwn w base0 y.2 y.1.pcs := by
      rcases List.mem_append.1 hy with h | h
      · exact hown.pcs y h
      · rw [List.mem_singleton.1 h]; exact hp
    exact hy'.kept g3 (apart_own hy' hown.row (by decide))
theorem wpList_append_mix (w : World) {ops : Array Oper} {rest : List Oper} {o : Oper} {a : Act} {Q : Exit → Act → World → Prop} (hgd : o.guard = none) (s x : Operand)
    (ho : o.op = .call { callee := .builtin .append, args := #[s, x], argTypes := #[29, 29] }) (base base0 : Nat) (v : Value) (ls : FPs) (y : FileV × Value) (ad : Addr) (c : Nat) (hs : a.eval s = v) (hx : a.eval x = .slice (some ad) 1 c)
    (hown : FMix w base base0 v ls) (h1c : y.2.oneCell' = true) (hp : POwn w base0 y.2 y.1.pcs) (h0 : w.cell? (ad.add 0) = some (.string y.1.name)) (h1 : w.cell? (ad.add 1) = some (.int .i64 y.1.size)) (h2 : w.cell? (ad.add 2) = some y.2) (hlen : ls.length ≤ 1000000) (hbase : base ≤ w.heap.size)
    (h : ∀ v' w', FMix w' base base0 v' (ls ++ [y]) → w.grownBy w' v.ownBlock → wpList Tryz.prog ops Q rest (a.put o.dst v') w') : wpList Tryz.prog ops Q (o :: rest) a w := by
  refine wpList_plain hgd fun K hK => ?_
  obtain ⟨v', w', hr, g2, g3⟩ := run_append_mix w o.type base base0 v ls y ad c hown h1c hp h0 h1 h2 hlen hbase
  unfold Oper.wp execOp
  simp only [ho, resolve, invoke, builtin, Sem.run_bind, Sem.run_pure, Result.andThen_ok, List.map_toArray, List.map_cons, List.map_nil, hs, hx, hr]
  exact hK _ _ (h v' w' g2 g3)
structure OnF (w0 : World) (base0 : Nat) (v : Value) (ls : FPs) (wr : World) : Prop where
  own : FMix wr w0.heap.size base0 v ls
  bel : Below w0.heap.size w0 wr
theorem OnF.app {w0 wr w' : World} {base0 : Nat} {v v' : Value} {l m : FPs} (h : OnF w0 base0 v l wr) (hg : wr.grownBy w' v.ownBlock) (ho : FMix w' w0.heap.size base0 v' m) : OnF w0 base0 v' m w' :=
  ⟨ho, h.bel.grown hg h.bel.size (fun k hk => (World.ownsRow.lt h.own.row k hk).1)⟩
theorem OnF.next {w0 wr w' : World} {base0 : Nat} {v : Value} {l : FPs} (h : OnF w0 base0 v l wr) (hb : Below wr.heap.size wr w') : OnF w0 base0 v l w' := ⟨h.own.below hb, below_bt h.bel hb⟩
/-- The files that no change names. -/
def stayP (ls : FPs) (l : List CV) : FPs := ls.filter fun x => !namedC l x.1.name
theorem stayP_yes {ls : FPs} {l : List CV} {k : Nat} (h : k < ls.length) (hg : namedC l (ls.getD k zeroFP).1.name = false) : stayP (ls.take (k + 1)) l = stayP (ls.take k) l ++ [ls.getD k zeroFP] := by
  rw [take_snoc (d := zeroFP) h]
  unfold stayP
  rw [List.filter_append]
  congr 1
  simp only [List.filter_cons, hg, List.filter_nil]
  rfl
theorem stayP_no {ls : FPs} {l : List CV} {k : Nat} (h : k < ls.length) (hg : namedC l (ls.getD k zeroFP).1.name = true) : stayP (ls.take (k + 1)) l = stayP (ls.take k) l := by
  rw [take_snoc (d := zeroFP) h]
  unfold stayP
  rw [List.filter_append]
  simp only [List.filter_cons, hg, List.filter_nil]
  simp
theorem stayP_len (ls : FPs) (l : List CV) (k : Nat) : (stayP (ls.take k) l).length ≤ ls.length := by
  have h1 := List.length_filter_le (fun x : FileV × Value => !namedC l x.1.name) (ls.take k)
  unfold stayP
  have : (ls.take k).length ≤ ls.length := by rw [List.length_take]; omega
  omega
set_option maxRecDepth 8000 in
set_option maxHeartbeats 2000000 in
theorem staying_any (fv : Value) (ls : FPs) (B base0 : Nat) (q : Option Addr) (n c : Nat) (l : List CV) (w : World) (hf : FMix w B base0 fv ls) (hfl : ls.length ≤ 1000) (hq : CsIn w q l) (hn0 : n = l.length) (hnb : (n : Int) ≤ 9223372036854775807) :
    Calls Tryz.prog 68 #[fv, .slice q n c] w fun e w' => ∃ v, e = .returned v ∧ OnF w base0 v (stayP ls l) w' := by
  obtain ⟨fq, fm, rfl, _, _, _⟩ := hf.form
  have HF : Hid (FMix w B base0 (.slice fq ls.length fm) ls) := hf
  have HQ : Hid (CsIn w q l ∧ n = l.length ∧ (n : Int) ≤ 9223372036854775807) := ⟨hq, hn0, hnb⟩
  obtain ⟨L, hL⟩ : ∃ L, ls.length = L := ⟨_, rfl⟩
  have HL : Hid (ls.length = L) := hL
  rw [hL] at HF hfl ⊢
  have hnI : (L : Int) ≤ 1000 := by omega
  clear hf hq hn0 hnb hL
  go_enter Tryz.func68, Tryz.ntmps68
  go_wp2
  go_loopw [5, 10] (fun v i wr => ∃ k : Nat, k ≤ L ∧ i = .int .i64 (k : Int) ∧ OnF w base0 v (stayP (ls.take k) l) wr) (fun _ i _ => L - (intOf i).toNat)
  case atStart => exact ⟨0, by omega, rfl, fmix_nil _ _ _, Below.refl _ _⟩
  case round =>
    obtain ⟨k, hk, rfl, hz⟩ := hrel
    obtain ⟨vq, vm, rfl, _, _, _⟩ := hz.own.form
    obtain ⟨P, hP⟩ : ∃ P, stayP (ls.take k) l = P := ⟨_, rfl⟩
    have HPL : Hid (P.length ≤ 1000) := by have := stayP_len ls l k; rw [hP] at this; have := HL.out; show _ ≤ _; omega
    have HP : Hid (stayP (ls.take k) l = P) := hP
    rw [hP] at hz ⊢
    have HZ : Hid (OnF w base0 (.slice vq P.length vm) P wr) := hz
    obtain ⟨lp, hlp⟩ : ∃ lp, P.length = lp := ⟨_, rfl⟩
    have HLP : Hid (P.length = lp) := hlp
    rw [hlp] at HZ ⊢
    clear hP hlp hz
    by_cases hkl : k < L
    · have hkI : (k : Int) < (L : Int) := by omega
      have k0 : (0 : Int) ≤ (k : Int) := by omega
      have hkl2 : k < ls.length := by have := HL.out; omega
      have hen := HF.out.below HZ.out.bel
      obtain ⟨g, rfl, z0, z1, z2, hpo⟩ := hen.at hkl2
      have HKL : Hid (k < L) := hkl
      have HY : Hid (namedC l (ls.getD k zeroFP).1.name = false → stayP (ls.take (k + 1)) l = P ++ [ls.getD k zeroFP]) := fun h => by rw [stayP_yes hkl2 h, HP.out]
      have HN : Hid (namedC l (ls.getD k zeroFP).1.name = true → stayP (ls.take (k + 1)) l = P) := fun h => by rw [stayP_no hkl2 h, HP.out]
      obtain ⟨⟨⟨nm, sz, pc⟩, pv⟩, hc⟩ : ∃ f, ls.getD k zeroFP = f := ⟨_, rfl⟩
      rw [hc] at z0 z1 z2 HY HN hpo
      simp only [Nat.zero_add] at z0 z1 z2 HY HN hpo
      obtain ⟨pq, pm, rfl, _, _, _⟩ := hpo.form
      have HPO : Hid (POwn wr base0 (.slice pq pc.length pm) pc) := hpo
      obtain ⟨lc, hlc⟩ : ∃ lc, pc.length = lc := ⟨_, rfl⟩
      rw [hlc] at z2 HPO HY
      obtain ⟨r, hr⟩ : ∃ r, namedC l nm = r := ⟨_, rfl⟩
      have HNM := named_any4 q n c l nm (wr.alloc (.cells #[.string nm, .int .i64 sz, .slice pq lc pm] 51)) (HQ.out.1.below (below_bt HZ.out.bel (below_alloc _ _))) HQ.out.2.1 HQ.out.2.2 r hr
      rw [hr] at HY HN
      clear hen hkl hkl2 hk hc HP hpo hr hlc
      go_wp2_with fail
      refine HNM.mono ?_
      rintro e w3 ⟨rfl, hb3⟩
      have hbk : w3.heap[wr.heap.size]? = some (.cells #[.string nm, .int .i64 sz, .slice pq lc pm] 51 (0, 0)) := (hb3.block _ (by simp)).trans (heap_alloc_new _ _)
      have HB3 : Hid (Below wr.heap.size wr w3) := below_bt (below_alloc _ _) hb3
      obtain ⟨y0, y1, y2⟩ := three_cells hbk
      clear hb3 HNM hbk
      cases r with
      | true =>
        have HN1 : Hid (stayP (ls.take (k + 1)) l = P) := HN.out rfl
        clear HY HN
        go_wp2
        go_roundw
        case rel => exact ⟨k + 1, HKL.out, by go_num, by rw [HN1.out]; exact HZ.out.next HB3.out⟩
        case measure => have := HKL.out; simp [intOf]; omega
      | false =>
        have HY1 : Hid (stayP (ls.take (k + 1)) l = P ++ [(⟨nm, sz, pc⟩, .slice pq lc pm)]) := HY.out rfl
        clear HY HN
        have H1 : Hid (OnF w base0 (.slice vq lp vm) P (w3.alloc (.cells #[.string nm, .int .i64 sz, .slice pq lc pm] 51))) := (HZ.out.next HB3.out).next (below_alloc _ _)
        have HPO1 : Hid (POwn (w3.alloc (.cells #[.string nm, .int .i64 sz, .slice pq lc pm] 51)) base0 (.slice pq lc pm) pc) := (HPO.out.below HB3.out).below (below_alloc _ _)
        have HC := new3 w3 (.string nm) (.int .i64 sz) (.slice pq lc pm) 51 w3.heap.size rfl
        have HC1 : Hid _ := HC
        clear HC
        go_wp2_with (at_builtin; go_loud ((refine wpList_append_mix _ rfl _ _ rfl w.heap.size base0 (.slice vq lp vm) P (⟨nm, sz, pc⟩, .slice pq lc pm) ⟨w3.heap.size, 0, none⟩ 1 rfl rfl H1.out.own rfl HPO1.out HC1.out.1 HC1.out.2.1 HC1.out.2.2 (by have := HPL.out; omega) H1.out.bel.size ?_); intro v5 w5 ho5 hg5; have H5 : Hid (OnF w base0 v5 (P ++ [(⟨nm, sz, pc⟩, .slice pq lc pm)]) w5) := H1.out.app hg5 ho5; clear ho5 hg5))
        go_roundw
        case rel => exact ⟨k + 1, HKL.out, by go_num, by rw [HY1.out]; exact H5.out⟩
        case measure => have := HKL.out; simp [intOf]; omega
    · have hkI : (L : Int) ≤ (k : Int) := by omega
      have HM : Hid (P = stayP ls l) := by
        show P = _
        rw [← HP.out, List.take_of_length_le (by have := HL.out; omega)]
      clear hkl
      go_wp2
      go_ret
      exact ⟨_, rfl, by rw [← HM.out]; exact HZ.out⟩
end Go.Proofs.YtglcpfnpbcnejaaGreatDoor
namespace Go.Proofs.YtglcpfnpbcnejaaGreatDoor
open Go.RowKit Go.WideShapes Rm Dk

theorem sec_bytes {lt : ByteArray → ByteArray → Prop} {y : DirV} (hy : IsDir lt y (bytesN y)) {i : Nat} (hi : i < 8) : (secAt (bytesN y) i).length = 128 ∧ ((beg8 (secAt (bytesN y) i) : Nat) : Int) = y.gen := by
  have hm := hy.1
  have hl := hy.2.1
  have hp : (padN (insideN y.files)).length = 952 := by unfold padN; simp; omega
  have hs : secAt (bytesN y) i = sectN y.gen.toNat (padN (insideN y.files)) i := by
    unfold secAt bytesN sectsN
    refine flat_at (c := 128) (fun m hm' => ?_) hi
    unfold sectN
    simp [putN_len, hp]
    omega
  have hg : y.gen.toNat < 18446744073709551616 := by have := hm.hi; omega
  have h0 := hm.lo
  refine ⟨?_, ?_⟩
  · rw [hs]
    unfold sectN
    simp [putN_len, hp]
    omega
  · rw [hs]
    unfold sectN
    rw [List.append_assoc, beg8_put _ hg]
    omega
theorem bytes_len {lt : ByteArray → ByteArray → Prop} {y : DirV} (hy : IsDir lt y (bytesN y)) : (bytesN y).length = 1024 := by
  have hl := hy.2.1
  have hp : (padN (insideN y.files)).length = 952 := by unfold padN; simp; omega
  unfold bytesN sectsN
  refine (flat_len (c := 128) (k := 8) (fun m hm' => ?_)).trans rfl
  unfold sectN
  simp [putN_len, hp]
  omega
end Go.Proofs.YtglcpfnpbcnejaaGreatDoor
