import Derived.Test.YtghcmllmbpoidaaGreatDoorJ01
import Derived.Lib.SmallJoins
import Derived.OpenShut
import Derived.Laws.AppendOwnNone
import Derived.Lib.AppendStr
import Derived.Deep.RegionLaw
namespace Go.Proofs.YtghcmllmbpoidaaGreatDoor
open Go.RowKit Go.WideShapes
set_option maxHeartbeats 400000 in
theorem get_ok (p : Option Addr) (c : Nat) (a0 a1 a2 a3 a4 a5 a6 a7 : Nat) (w : World) (hb : BIn w p [a0, a1, a2, a3, a4, a5, a6, a7]) :
    Calls Tryz.prog 97 #[.slice p 8 c] w fun e w' => e = .returned (.tuple #[.int .u64 (joinN a0 a1 a2 a3 a4 a5 a6 a7 : Nat), .int .i64 0]) ∧ Below w.heap.size w w' := by
  obtain ⟨b, o, rfl, hc⟩ := hb.1 (by simp)
  have c0 : w.cell? ⟨b, o, none⟩ = some (.int .u8 a0) := hc 0 (by simp)
  have c1 : w.cell? ⟨b, o + 1, none⟩ = some (.int .u8 a1) := hc 1 (by simp)
  have c2 : w.cell? ⟨b, o + 2, none⟩ = some (.int .u8 a2) := hc 2 (by simp)
  have c3 : w.cell? ⟨b, o + 3, none⟩ = some (.int .u8 a3) := hc 3 (by simp)
  have c4 : w.cell? ⟨b, o + 4, none⟩ = some (.int .u8 a4) := hc 4 (by simp)
  have c5 : w.cell? ⟨b, o + 5, none⟩ = some (.int .u8 a5) := hc 5 (by simp)
  have c6 : w.cell? ⟨b, o + 6, none⟩ = some (.int .u8 a6) := hc 6 (by simp)
  have c7 : w.cell? ⟨b, o + 7, none⟩ = some (.int .u8 a7) := hc 7 (by simp)
  have hl := hb.2
  simp only [List.mem_cons, List.not_mem_nil, or_false, forall_eq_or_imp, forall_eq] at hl
  obtain ⟨l0, l1, l2, l3, l4, l5, l6, l7⟩ := hl
  clear hb hc
  have hat : ∀ w, (Instr.arrayAt 133 (.slice (some ⟨b, o, none⟩) 8 c)).run Tryz.prog w = .ok (.pointer (some ⟨b, o, none⟩)) w := fun _ => by kernel_rfl
  go_enter Tryz.func97, Tryz.ntmps97
  go_wp2_with (go_at_call 125; refine (join_any a0 a1 a2 a3 a4 a5 a6 a7 _ l0 l1 l2 l3 l4 l5 l6 l7).mono ?_; rintro e w1 ⟨rfl, hb⟩)
  go_ret2
  exact ⟨rfl, hb⟩
theorem read_fits (k acc c : Nat) (hk : k ≤ 9) (hacc : acc < 2 ^ (7 * k)) (hc : k = 9 → c ≤ 1) : c % 128 * 2 ^ (7 * k) + acc < 18446744073709551616 := by
  by_cases h : k = 9
  · have := hc h; subst h; simp only [Nat.reduceMul, Nat.reducePow] at *; omega
  · have h1 : (2 : Nat) ^ (7 * k) ≤ 2 ^ 56 := Nat.pow_le_pow_right (by decide) (by omega)
    have h2 : c % 128 * 2 ^ (7 * k) ≤ 127 * 2 ^ 56 := Nat.mul_le_mul (by omega) h1
    have h3 : (127 : Nat) * 2 ^ 56 = 9151314442816847872 := by decide
    have h4 : (2 : Nat) ^ 56 = 72057594037927936 := by decide
    omega
theorem or_read (k acc c : Nat) (hk : k ≤ 9) (hacc : acc < 2 ^ (7 * k)) (hc : k = 9 → c ≤ 1) :
    bits BinOp.or IntKind.u64 (acc : Int) (IntKind.u64.wrap ((c : Int) % 128 * 2 ^ (7 * k))) = ((c % 128 * 2 ^ (7 * k) + acc : Nat) : Int) := by
  have hf := read_fits k acc c hk hacc hc
  refine or_join (7 * k) acc (c % 128) _ hacc hf _ ?_ rfl
  rw [IntKind.wrap_u64]
  have e : ((c % 128 * 2 ^ (7 * k) : Nat) : Int) = (c : Int) % 128 * 2 ^ (7 * k) := by simp
  rw [← e]
  omega
theorem acc_lt (k acc c : Nat) (hacc : acc < 2 ^ (7 * k)) : c % 128 * 2 ^ (7 * k) + acc < 2 ^ (7 * (k + 1)) := by
  rw [show 7 * (k + 1) = 7 * k + 7 from by omega, Nat.pow_add]
  have : c % 128 * 2 ^ (7 * k) ≤ 127 * 2 ^ (7 * k) := Nat.mul_le_mul_right _ (by omega)
  omega
theorem aux_hi {k acc c : Nat} {ys : List Nat} (h9 : ¬ (k = 9 ∧ 1 < c)) (h : 128 ≤ c) : readAux k acc (c :: ys) = readAux (k + 1) (c % 128 * 2 ^ (7 * k) + acc) ys := by rw [readAux, if_neg h9, if_pos h]
theorem aux_big {k acc c : Nat} {ys : List Nat} (h9 : k = 9 ∧ 1 < c) : readAux k acc (c :: ys) = none := by rw [readAux, if_pos h9]
theorem aux_zero {k acc c : Nat} {ys : List Nat} (h9 : ¬ (k = 9 ∧ 1 < c)) (h : ¬ 128 ≤ c) (h0 : c = 0 ∧ 0 < k) : readAux k acc (c :: ys) = none := by rw [readAux, if_neg h9, if_neg h, if_pos h0]
theorem aux_end {k acc c : Nat} {ys : List Nat} (h9 : ¬ (k = 9 ∧ 1 < c)) (h : ¬ 128 ≤ c) (h0 : ¬ (c = 0 ∧ 0 < k)) : readAux k acc (c :: ys) = some (c % 128 * 2 ^ (7 * k) + acc, k + 1) := by
  rw [readAux, if_neg h9, if_neg h, if_neg h0, Nat.mod_eq_of_lt (by omega)]
theorem drop_at (xs : List Nat) (k : Nat) (h : k < xs.length) : xs.drop k = xs.getD k 0 :: xs.drop (k + 1) := by
  rw [List.drop_eq_getElem_cons h]; simp [List.getD, List.getElem?_eq_getElem h]
def readV : Option (Nat × Nat) → Value
  | some (n, k) => .tuple #[.int .u64 n, .int .i64 k, .int .i64 0]
  | none => .tuple #[.int .u64 0, .int .i64 0, .int .i64 8]
set_option maxHeartbeats 400000 in
set_option maxRecDepth 100000 in
theorem read_any (p : Option Addr) (cap : Nat) (xs : List Nat) (w : World) (hb : BIn w p xs) (hm : xs.length ≤ maxLen) :
    Calls Tryz.prog 88 #[.slice p xs.length cap] w fun e w' => e = .returned (readV (readN xs)) ∧ w' = w := by
  unfold maxLen at hm
  have hlt := hb.2
  go_enter Tryz.func88, Tryz.ntmps88
  go_wp2
  go_loop [5, 10] (fun t i => ∃ k acc : Nat, k ≤ xs.length ∧ k ≤ 9 ∧ acc < 2 ^ (7 * k) ∧ i = .int .i64 k ∧ t = .int .u64 acc ∧ readN xs = readAux k acc (xs.drop k)) (fun _ i => xs.length - (intOf i).toNat)
  case atStart => exact ⟨0, 0, by omega, by omega, by decide, rfl, rfl, rfl⟩
  case round =>
    obtain ⟨k, acc, hk, hk9, hacc, rfl, rfl, hR⟩ := hrel
    have HR : Hid _ := hR
    clear hR
    have HA : Hid (acc < 2 ^ (7 * k)) := hacc
    clear hacc
    by_cases hkl : k < xs.length
    · obtain ⟨b, o, rfl, hc⟩ := hb.1 (by omega)
      have hck := hc k hkl
      have hb8 := getD_lt hlt k
      have HD : Hid _ := drop_at xs k hkl
      have ha := and127 (xs.getD k 0) hb8
      generalize xs.getD k 0 = c at *
      clear hc hlt
      by_cases h9 : k = 9 ∧ 1 < c
      · have e : Hid (readN xs = none) := by show _ = _; rw [HR.out, HD.out, aux_big h9]
        obtain ⟨rfl, h1⟩ := h9
        go_wp2
        go_ret3
        exact ⟨by rw [e.out]; rfl, rfl⟩
      · have hor := or_read k acc c hk9 HA.out (by omega)
        have hfit := read_fits k acc c hk9 HA.out (by omega)
        have hal : Hid _ := acc_lt k acc c HA.out
        by_cases hc128 : 128 ≤ c
        · have e : Hid _ := HD.out ▸ aux_hi (acc := acc) (ys := xs.drop (k + 1)) h9 hc128
          have h9' : k ≤ 8 := by omega
          have h9b : ((k : Int) == 9) = false := by simp; omega
          generalize c % 128 * 2 ^ (7 * k) + acc = z at *
          go_wp2
          go_round
          case rel => exact ⟨k + 1, z, by omega, by omega, hal.out, by go_num, rfl, by rw [HR.out, e.out]⟩
          case measure => simp [intOf]; omega
        · have h9b : ∃ t, ((k : Int) == 9) = t := ⟨_, rfl⟩
          have h0b : ∃ t, ((c : Int) == 0) = t := ⟨_, rfl⟩
          have h1b : ¬ ((k : Int) == 9) = true ∨ (c : Int) ≤ 1 := by simp; omega
          by_cases h0 : c = 0 ∧ 0 < k
          · have e : Hid _ := HD.out ▸ aux_zero (acc := acc) (ys := xs.drop (k + 1)) h9 hc128 h0
            generalize c % 128 * 2 ^ (7 * k) + acc = z at *
            have hc0 : ((c : Int) == 0) = true := by simp; omega
            have hk0 : 0 < k := h0.2
            have hc1 : c ≤ 1 := by omega
            clear h0 h0b h9 h1b
            obtain ⟨t, ht⟩ := h9b
            cases t
            all_goals
              go_wp2
              go_ret3
              exact ⟨by rw [HR.out, e.out]; rfl, rfl⟩
          · have e : Hid _ := HD.out ▸ aux_end (acc := acc) (ys := xs.drop (k + 1)) h9 hc128 h0
            generalize c % 128 * 2 ^ (7 * k) + acc = z at *
            obtain ⟨t, ht⟩ := h9b
            obtain ⟨u, hu⟩ := h0b
            cases t
            · cases u
              · clear h0 h9 h1b
                go_wp2
                go_ret3
                exact ⟨by rw [HR.out, e.out]; rfl, rfl⟩
              · have hk0 : k ≤ 0 := by simp at hu; omega
                clear h0 h9 h1b
                go_wp2
                go_ret3
                exact ⟨by rw [HR.out, e.out]; rfl, rfl⟩
            · have hc1 : c ≤ 1 := by simp [ht] at h1b; omega
              have hk0 : 0 < k := by simp at ht; omega
              cases u
              · clear h0 h9 h1b
                go_wp2
                go_ret3
                exact ⟨by rw [HR.out, e.out]; rfl, rfl⟩
              · exact absurd ⟨by simpa using hu, hk0⟩ h0
    · have e : k = xs.length := by omega
      subst e
      have e : Hid (readN xs = none) := by show _ = _; rw [HR.out, List.drop_length]; rfl
      go_wp2
      go_ret3
      exact ⟨by rw [e.out]; rfl, rfl⟩
theorem bin_lit (w : World) (g : Nat) (C : Array Value) (e : TypeId) (fr : Nat × Nat) (xs : List Nat) (hg : g = w.heap.size) (hC : C = (Bs xs).toArray) (hx : ∀ c ∈ xs, c < 256) : BIn (w.alloc (.cells C e fr)) (some ⟨g, 0, none⟩) xs := by
  subst hg hC
  refine ⟨fun _ => ⟨w.heap.size, 0, rfl, fun i hi => ?_⟩, hx⟩
  rw [cell_of_row (w.alloc (.cells (Bs xs).toArray e fr)) w.heap.size (0 + i) (Bs xs).toArray e fr (heap_alloc_new w _)]
  simp [Bs, List.getD, List.getElem?_eq_getElem hi]
theorem own_bin {w : World} {base : Nat} {p : Option Addr} {m c : Nat} {xs : List Nat} (h : w.ownsRow base 5 1 (.slice p m c) xs.length (Bs xs)) (hx : ∀ c ∈ xs, c < 256) : BIn w p xs ∧ m = xs.length := by
  rcases h.2 with ⟨hv, hn⟩ | ⟨g, cap, cur, hv, hb, hg, hle, hmax, hsz, htk⟩
  · simp at hv
    exact ⟨⟨fun h => by omega, hx⟩, by omega⟩
  · simp at hv
    obtain ⟨rfl, rfl, rfl⟩ := hv
    refine ⟨⟨fun _ => ⟨g, 0, rfl, fun i hi => ?_⟩, hx⟩, rfl⟩
    have := h.cells rfl i (.int .u8 (xs.getD i 0 : Nat)) (by simp [Bs, List.getD, List.getElem?_eq_getElem hi])
    rw [Go.WideShapes.add_plain] at this
    exact this
theorem own_at {w : World} {base : Nat} {p : Option Addr} {m c n : Nat} {xs : List Nat} (h : w.ownsRow base 5 1 (.slice p m c) n (Bs xs)) (hn : n = xs.length) (hx : ∀ c ∈ xs, c < 256) : BIn w p xs := by
  subst hn; exact (own_bin h hx).1
theorem own_below {w w' : World} {base size n : Nat} {e : TypeId} {v : Value} {xs : List Value} (h : w.ownsRow base e size v n xs) (hb : Below w.heap.size w w') : w'.ownsRow base e size v n xs :=
  h.kept (row := none) ⟨hb.os, hb.tape, hb.output, hb.size, fun k hk _ => hb.block k hk⟩ (by cases v.ownBlock <;> simp)
theorem bin_cells {w : World} {b o : Nat} {ys : List Nat} (h : BIn w (some ⟨b, o, none⟩) ys) : ∀ j u, (Bs ys)[j]? = some u → w.cell? ((⟨b, o, none⟩ : Addr).add j) = some u := by
  intro j u hu
  have hj : j < ys.length := by
    rcases Nat.lt_or_ge j ys.length with h | h
    · exact h
    · simp [Bs, List.getElem?_eq_none h] at hu
  rw [add_plain, h.cell j hj]
  simp [Bs, List.getElem?_eq_getElem hj] at hu
  simp [List.getD, List.getElem?_eq_getElem hj, ← hu]
theorem Bs_one (ys : List Nat) : ∀ u ∈ Bs ys, u.oneCell' = true := by
  intro u hu
  simp only [Bs, List.mem_map] at hu
  obtain ⟨b, _, rfl⟩ := hu
  rfl
theorem run_append_bytes (w : World) (base : Nat) (ty : TypeId) (v : Value) (xs ys : List Nat) (p : Option Addr) (c : Nat) (hown : w.ownsRow base 5 1 v xs.length (Bs xs)) (hin : BIn w p ys) (hp : p = none → c = 0)
    (hlen : xs.length + ys.length ≤ 140737488355328) (hbase : base ≤ w.heap.size) :
    ∃ v' w', (Builtin.append_ #[32, 32] ty #[v, .slice p ys.length c]).run Tryz.prog w = .ok v' w' ∧ w'.ownsRow base 5 1 v' (xs ++ ys).length (Bs (xs ++ ys)) ∧ w.grownBy w' v.ownBlock := by
  obtain ⟨i0, hi, hz0, hz1, hz2⟩ := info_parts info5
  have hmax : xs.length + ys.length ≤ maxLen := by unfold maxLen; omega
  cases p with
  | none =>
    obtain rfl : ys = [] := by
      cases ys with
      | nil => rfl
      | cons y ys => obtain ⟨b, o, e, _⟩ := hin.1 (by simp); cases e
    obtain rfl := hp rfl
    exact ⟨v, w, run_append_owned_none (P := Tryz.prog) w base 32 ty 5 i0 1 Tryz.underlying32 hi v xs.length (Bs xs) hown, by simpa using hown, ⟨rfl, rfl, rfl, Nat.le_refl _, fun _ _ _ => rfl⟩⟩
  | some ad =>
    have hc : ∀ j u, (Bs ys)[j]? = some u → w.cell? (ad.add j) = some u := by
      intro j u hu
      have hpos : 0 < ys.length := by
        cases ys with
        | nil => simp [Bs] at hu
        | cons y ys => simp
      obtain ⟨b, o, e, _⟩ := hin.1 hpos
      simp at e
      subst e
      exact bin_cells hin j u hu
    obtain ⟨v', w', h1, h2, h3, _⟩ := run_append_own (P := Tryz.prog) w base 32 ty 5 i0 (.int .u8 0) 1 1 Tryz.underlying32 hi hz0 hz1 hz2 rfl (by decide) v xs.length (Bs xs) hown ad ys.length c (Bs ys) (by simp [Bs]) hc (Bs_one ys) hmax (by omega) hbase
    exact ⟨v', w', h1, by simpa [Bs_app] using h2, h3⟩
theorem wpList_append_bytes (w : World) {ops : Array Oper} {rest : List Oper} {o : Oper} {a : Act} {Q : Exit → Act → World → Prop} (hgd : o.guard = none) (s x : Operand)
    (ho : o.op = .call { callee := .builtin .append, args := #[s, x], argTypes := #[32, 32] }) (base : Nat) (v : Value) (xs ys : List Nat) (p : Option Addr) (m c : Nat) (hs : a.eval s = v) (hx : a.eval x = .slice p m c) (hm : m = ys.length)
    (hown : w.ownsRow base 5 1 v xs.length (Bs xs)) (hin : BIn w p ys) (hp : p = none → c = 0) (hlen : xs.length + ys.length ≤ 140737488355328) (hbase : base ≤ w.heap.size)
    (h : ∀ v' w', w'.ownsRow base 5 1 v' (xs ++ ys).length (Bs (xs ++ ys)) → w.grownBy w' v.ownBlock → wpList Tryz.prog ops Q rest (a.put o.dst v') w') : wpList Tryz.prog ops Q (o :: rest) a w := by
  subst hm
  refine wpList_plain hgd fun K hK => ?_
  obtain ⟨v', w', hr, h2, h3⟩ := run_append_bytes w base o.type v xs ys p c hown hin hp hlen hbase
  unfold Oper.wp execOp
  simp only [ho, resolve, invoke, builtin, Sem.run_bind, Sem.run_pure, Result.andThen_ok, List.map_toArray, List.map_cons, List.map_nil, hs, hx, hr]
  exact hK _ _ (h v' w' h2 h3)
theorem step_append_bytes {ops : Array Oper} {o : Oper} {a : Act} {w : World} {K : Act → World → Prop} {Q : Exit → Act → World → Prop} {E : Prop} (hgd : o.guard = none) (s x : Operand)
    (ho : o.op = .call { callee := .builtin .append, args := #[s, x], argTypes := #[32, 32] }) (base : Nat) (v : Value) (xs ys : List Nat) (p : Option Addr) (m c : Nat) (hs : a.eval s = v) (hx : a.eval x = .slice p m c) (hm : m = ys.length)
    (hown : w.ownsRow base 5 1 v xs.length (Bs xs)) (hin : BIn w p ys) (hp : p = none → c = 0) (hlen : xs.length + ys.length ≤ 140737488355328) (hbase : base ≤ w.heap.size)
    (h : ∀ v' w', w'.ownsRow base 5 1 v' (xs ++ ys).length (Bs (xs ++ ys)) → w.grownBy w' v.ownBlock → K (a.put o.dst v') w') : if Region.wanted o (yielded ops a.tmps) = true then Oper.wp Tryz.prog o a w K Q else E := by
  subst hm
  have hw : Region.wanted o (yielded ops a.tmps) = true := by simp [Region.wanted, hgd]
  rw [if_pos hw]
  obtain ⟨v', w', hr, h2, h3⟩ := run_append_bytes w base o.type v xs ys p c hown hin hp hlen hbase
  unfold Oper.wp execOp
  simp only [ho, resolve, invoke, builtin, Sem.run_bind, Sem.run_pure, Result.andThen_ok, List.map_toArray, List.map_cons, List.map_nil, hs, hx, hr]
  exact h v' w' h2 h3
def numsOf (s : ByteArray) : List Nat := s.data.toList.map UInt8.toNat
theorem numsOf_len (s : ByteArray) : (numsOf s).length = s.size := by rw [numsOf, List.length_map, Array.length_toList]; rfl
theorem numsOf_lt (s : ByteArray) : ∀ c ∈ numsOf s, c < 256 := by
  intro c hc
  simp only [numsOf, List.mem_map] at hc
  obtain ⟨b, _, rfl⟩ := hc
  exact b.toNat_lt
theorem strCells_Bs (s : ByteArray) : Lib.strCells s = Bs (numsOf s) := by unfold Lib.strCells Bs numsOf; rw [List.map_map]; rfl
theorem strOf_nums (s : ByteArray) : strOf (numsOf s) = s := by
  apply bytes_inj
  rw [strOf_list, numsOf, List.map_map]
  conv => rhs; rw [← List.map_id s.data.toList]
  congr 1
  funext b
  simp
def textN (s : ByteArray) : List Nat := smallN s.size ++ numsOf s
set_option maxHeartbeats 400000 in
theorem text_any (s : ByteArray) (w : World) (hs : s.size ≤ 100000) :
    Calls Tryz.prog 56 #[.string s] w fun e w' => ∃ v, e = .returned v ∧ w'.ownsRow w.heap.size 5 1 v (textN s).length (Bs (textN s)) ∧ Below w.heap.size w w' := by
  obtain ⟨i0, hi, hz0, hz1, hz2⟩ := info_parts info5
  have hten := smallN_ten s.size (by omega)
  go_enter Tryz.func56, Tryz.ntmps56
  go_wp2_with fail
  refine (small_any s.size w (by omega)).mono ?_
  rintro e w1 ⟨v, rfl, hown, hb⟩
  have hsz := hb.size
  go_wp2_with (at_builtin; refine Lib.wpList_append_own_string _ rfl _ _ 32 9 rfl w.heap.size 5 i0 Tryz.underlying32 Tryz.underlying9 hi hz0 hz1 hz2 _ _ _ rfl hown s rfl ?c3 ?c4 hsz ?_)
  case c3 => unfold maxLen; omega
  case c4 => omega
  intro v' w2 hown' hgrow _
  have R : w2.ownsRow w.heap.size 5 1 v' (textN s).length (Bs (textN s)) := by simpa [textN, numsOf_len, Bs_app, strCells_Bs] using hown'
  have hb2 := hb.grown hgrow hsz (fun k hk => (hown.lt k hk).1)
  clear hown' hgrow hown
  go_wp2
  go_ret
  exact ⟨v', rfl, R, hb2⟩
theorem readAux_some (ys : List Nat) : ∀ {i acc n k : Nat}, i ≤ 9 → acc < 2 ^ (7 * i) → readAux i acc ys = some (n, k) → i < k ∧ k ≤ i + ys.length ∧ k ≤ 10 ∧ n < 18446744073709551616 := by
  induction ys with
  | nil => intro i acc n k _ _ h; simp [readAux] at h
  | cons c ys ih =>
    intro i acc n k hi hacc h
    by_cases h9 : i = 9 ∧ 1 < c
    · rw [aux_big h9] at h; cases h
    · by_cases hc : 128 ≤ c
      · rw [aux_hi h9 hc] at h
        have := ih (by omega) (acc_lt i acc c hacc) h
        simp; omega
      · by_cases h0 : c = 0 ∧ 0 < i
        · rw [aux_zero h9 hc h0] at h; cases h
        · rw [aux_end h9 hc h0] at h
          simp only [Option.some.injEq, Prod.mk.injEq] at h
          have := read_fits i acc c hi hacc (by omega)
          simp; omega
theorem readN_some {xs : List Nat} {n k : Nat} (h : readN xs = some (n, k)) : 1 ≤ k ∧ k ≤ xs.length ∧ k ≤ 10 ∧ n < 18446744073709551616 := by
  have := readAux_some xs (by omega) (by decide) h
  omega
theorem read_some (p : Option Addr) (len cap : Nat) (xs : List Nat) (w : World) (n k : Nat) (hlen : len = xs.length) (hb : BIn w p xs) (hm : xs.length ≤ maxLen) (hr : readN xs = some (n, k)) :
    Calls Tryz.prog 88 #[.slice p len cap] w fun e w' => e = .returned (.tuple #[.int .u64 n, .int .i64 k, .int .i64 0]) ∧ w' = w := by
  subst hlen
  refine (read_any p cap xs w hb hm).mono fun e w' h => ⟨?_, h.2⟩
  rw [h.1, hr]; rfl
theorem read_none (p : Option Addr) (len cap : Nat) (xs : List Nat) (w : World) (hlen : len = xs.length) (hb : BIn w p xs) (hm : xs.length ≤ maxLen) (hr : readN xs = none) :
    Calls Tryz.prog 88 #[.slice p len cap] w fun e w' => e = .returned (.tuple #[.int .u64 0, .int .i64 0, .int .i64 8]) ∧ w' = w := by
  subst hlen
  refine (read_any p cap xs w hb hm).mono fun e w' h => ⟨?_, h.2⟩
  rw [h.1, hr]; rfl
set_option maxHeartbeats 400000 in
theorem cut_none (p : Option Addr) (cap : Nat) (xs : List Nat) (w : World) (hb : BIn w p xs) (hm : xs.length ≤ maxLen) (hr : readN xs = none) :
    Calls Tryz.prog 89 #[.slice p xs.length cap] w fun e w' => e = .returned (.tuple #[.string ByteArray.empty, .slice none 0 0, .int .i64 8]) ∧ w' = w := by
  have HR : Hid _ := hr
  clear hr
  go_enter Tryz.func89, Tryz.ntmps89
  go_wp2_with fail
  refine (read_none p xs.length cap xs w rfl hb hm HR.out).mono ?_
  rintro e w1 ⟨rfl, rfl⟩
  go_wp2
  go_ret3
  exact ⟨rfl, rfl⟩
set_option maxHeartbeats 400000 in
theorem cut_long (p : Option Addr) (cap : Nat) (xs : List Nat) (w : World) (hb : BIn w p xs) (hm : xs.length ≤ maxLen) (n k : Nat) (hr : readN xs = some (n, k)) (hl : xs.length < k + n) :
    Calls Tryz.prog 89 #[.slice p xs.length cap] w fun e w' => e = .returned (.tuple #[.string ByteArray.empty, .slice none 0 0, .int .i64 8]) ∧ w' = w := by
  obtain ⟨k1, k2, k3, k4⟩ := readN_some hr
  have hm' := hm
  unfold maxLen at hm'
  have HR : Hid _ := hr
  clear hr
  go_enter Tryz.func89, Tryz.ntmps89
  go_wp2_with fail
  refine (read_some p xs.length cap xs w n k rfl hb hm HR.out).mono ?_
  rintro e w1 ⟨rfl, rfl⟩
  clear HR hb
  go_wp2
  go_ret3
  exact ⟨rfl, rfl⟩
theorem bin_part {w : World} {b o : Nat} {xs : List Nat} (h : BIn w (some ⟨b, o, none⟩) xs) (cap k : Nat) (hcap : xs.length ≤ cap) (n : Nat) : BIn w (if cap = k then some ⟨b, o, none⟩ else some ⟨b, o + k, none⟩) ((xs.drop k).take n) := by
  refine ⟨fun hp => ?_, fun c hc => h.2 c (List.mem_of_mem_drop (List.mem_of_mem_take hc))⟩
  simp at hp
  rw [if_neg (by omega)]
  refine ⟨b, o + k, rfl, fun i hi => ?_⟩
  simp at hi
  have := h.cell (k + i) (by omega)
  rw [Nat.add_assoc, this]
  simp [List.getD, show i < n from by omega]
theorem conv_at {w : World} {p : Option Addr} {xs : List Nat} {n c : Nat} (h : BIn w p xs) (hn : n = xs.length) : (convert 32 9 (.slice p n c)).run Tryz.prog w = .ok (.string (strOf xs)) w := by
  subst hn; exact h.conv c
set_option maxHeartbeats 400000 in
theorem cut_ok (p : Option Addr) (cap : Nat) (xs : List Nat) (w : World) (hb : BIn w p xs) (hm : xs.length ≤ 100000) (hcap : xs.length ≤ cap) (n k : Nat) (hr : readN xs = some (n, k)) (hl : k + n ≤ xs.length) :
    Calls Tryz.prog 89 #[.slice p xs.length cap] w fun e w' => ∃ v, e = .returned (.tuple #[.string (strOf ((xs.drop k).take n)), v, .int .i64 0]) ∧ w'.ownsRow w.heap.size 5 1 v (xs.drop (k + n)).length (Bs (xs.drop (k + n))) ∧ Below w.heap.size w w' := by
  obtain ⟨k1, k2, k3, k4⟩ := readN_some hr
  obtain ⟨b, o, rfl, hc⟩ := hb.1 (by omega)
  have HR : Hid _ := hr
  clear hr
  have hm' : xs.length ≤ maxLen := by unfold maxLen; omega
  go_enter Tryz.func89, Tryz.ntmps89
  go_wp2_with fail
  refine (read_some _ xs.length cap xs w n k rfl hb hm' HR.out).mono ?_
  rintro e w1 ⟨rfl, rfl⟩
  clear HR hm'
  go_wp2_with fail
  have q1 : (0 : Int) ≤ (k : Int) + n ∧ (k : Int) + n ≤ cap := by omega
  have q2 : ((k : Int) + n).toNat = k + n := by omega
  have q3 : k ≤ k + n := by omega
  have q4 : (k : Int) + n ≤ xs.length := by omega
  have B1 := bin_part hb cap k hcap n
  have B2 := bin_part hb cap (k + n) hcap xs.length
  have l1 : n = ((xs.drop k).take n).length := by simp; omega
  have l2 : xs.length - (k + n) = ((xs.drop (k + n)).take xs.length).length := by simp
  have e2 : Hid ((xs.drop (k + n)).take xs.length = xs.drop (k + n)) := List.take_of_length_le (by simp)
  obtain ⟨A1, hA1⟩ : ∃ A, (if cap = k then some (⟨b, o, none⟩ : Addr) else some ⟨b, o + k, none⟩) = A := ⟨_, rfl⟩
  obtain ⟨A2, hA2⟩ : ∃ A, (if cap = k + n then some (⟨b, o, none⟩ : Addr) else some ⟨b, o + (k + n), none⟩) = A := ⟨_, rfl⟩
  rw [hA1] at B1
  rw [hA2] at B2
  clear hb hc
  have HB1 : Hid _ := B1
  have HB2 : Hid _ := B2
  have cv0 := conv_at (c := cap - k) (show BIn w1.drew A1 _ from B1) l1
  clear B1 B2
  have L1 : Hid _ := l1
  have L2 : Hid _ := l2
  clear l1 l2
  have P2 : Hid (A2 = none → cap - (k + n) = 0) := by show _ → _; intro h; rw [h] at hA2; split at hA2 <;> cases hA2
  have Z2 : Hid (([] : List Nat).length + ((xs.drop (k + n)).take xs.length).length ≤ 140737488355328) := by show _ ≤ _; simp; omega
  have HW : Hid (∀ w2, w1.drew.grownBy w2 (Value.slice none 0 0).ownBlock → Below w1.heap.size w1 w2 ∧ (convert 32 9 (.slice A1 n (cap - k))).run Tryz.prog w2 = .ok (.string (strOf ((xs.drop k).take n))) w2) := by
    intro w2 hgrow
    have hbl : Below w1.heap.size w1 w2 := ((Below.refl w1.heap.size w1).drew).grown hgrow (Nat.le_refl _) (fun k hk => by simp [Value.ownBlock] at hk)
    exact ⟨hbl, conv_at (BIn.below HB1.out hbl) L1.out⟩
  clear HB1 L1
  go_region_law (refine step_append_bytes rfl (.const (.slice none 0 0)) (.tmp 36) rfl w1.heap.size (.slice none 0 0) [] _ A2 (xs.length - (k + n)) (cap - (k + n)) rfl (by simp [Act.eval, Act.put]) L2.out (World.ownsRow_nil _ _ _ _) HB2.out P2.out Z2.out (Nat.le_refl _) ?_; intro v' w2 hown hgrow; obtain ⟨hbl, cv1⟩ := HW.out w2 hgrow; clear hgrow)
  all_goals
    rw [List.nil_append, e2.out] at hown
    have HO : Hid _ := hown
    clear hown cv0 cv1 hA1 hA2 HW q1 q2 q3 q4
    go_wp2
    go_ret3
    exact ⟨v', rfl, HO.out, hbl⟩
end Go.Proofs.YtghcmllmbpoidaaGreatDoor
