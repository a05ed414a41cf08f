/-
  The bytes made longer: the document's.
-/
import Derived.Test.YtoagaddciapmkaaDoorXBehind
import Derived.Test.YtoagaddciapmkaaDoorXRSmall
namespace Go.Proofs.YtoagaddciapmkaaDoor
open Go.RowKit Go.WideShapes Go.Maps

theorem wpList_append_rowH (w : World) {ops : Array Oper} {rest : List Oper} {o : Oper} {a : Act} {Q : Exit → Act → World → Prop} (hgd : o.guard = none) (s x : Operand)
    (ho : o.op = .call { callee := .builtin .append, args := #[s, x], argTypes := #[22, 22] }) (base : Nat) (v : Value) (xs ys : List Nat) (p : Option Addr) (m c : Nat) (hs : a.eval s = v) (hx : a.eval x = .slice p m c) (hm : m = ys.length)
    (hown : w.ownsRow base 5 1 v xs.length (Bs xs)) (hin : BIn w p ys) (hp : p = none → c = 0) (hlen : xs.length + ys.length ≤ 140737488355328) (hbase : base ≤ w.heap.size)
    (h : ∀ v' w', w'.ownsRow base 5 1 v' (xs ++ ys).length (Bs (xs ++ ys)) → w.grownBy w' v.ownBlock → wpList Tryd.prog ops Q rest (a.put o.dst v') w') : wpList Tryd.prog ops Q (o :: rest) a w := by
  subst hm
  refine wpList_plain hgd fun K hK => ?_
  obtain ⟨i0, hi, hz0, hz1, hz2⟩ := info_parts info5
  obtain ⟨v', w', hr, h2, h3⟩ := run_append_row (P := Tryd.prog) (tb := 22) (eb := 5) Tryd.underlying22 hi hz0 hz1 hz2 base o.type v xs ys p c hown hin hp hlen hbase
  unfold Oper.wp execOp
  simp only [ho, resolve, invoke, builtin, Sem.run_bind, Sem.run_pure, Result.andThen_ok, List.map_toArray, List.map_cons, List.map_nil, hs, hx, hr]
  exact hK _ _ (h v' w' h2 h3)
def lenW : Value → Nat
  | .slice _ n _ => n
  | _ => 0
theorem owns_len {w : World} {B : Nat} {v : Value} {n : Nat} {xs : List Value} (h : w.ownsRow B 5 1 v n xs) : ∃ p c, v = .slice p n c := by
  rcases h.2 with ⟨rfl, h0⟩ | ⟨g, cap, cur, rfl, _⟩
  · exact ⟨none, 0, by rw [h0]⟩
  · exact ⟨_, _, rfl⟩
set_option maxHeartbeats 1000000 in
set_option maxRecDepth 100000 in
theorem rlonger_any (p : Option Addr) (c : Nat) (b : List Nat) (w : World) (hb : BIn w p b) (hp : p = none → c = 0) (hs : b.length ≤ 140737488300000) :
    Calls Tryd.prog 36 #[.slice p b.length c] w fun e w' => ∃ v, e = .returned v ∧ w'.ownsRow w.heap.size 5 1 v (longerN b).length (Bs (longerN b)) ∧ Below w.heap.size w w' := by
  obtain ⟨i0, hi, hz0, hz1, hz2⟩ := info_parts info5
  obtain ⟨s, hsl⟩ : ∃ s, b.length = s := ⟨_, rfl⟩
  obtain ⟨z, hz⟩ : ∃ z, (119 - s % 64) % 64 = z := ⟨_, rfl⟩
  have HT : Hid (longerN b = b ++ (128 :: List.replicate z 0) ++ be8 (s * 8)) := by show _ = _; unfold longerN; rw [hsl, hz, List.append_assoc]
  have HSL : Hid (b.length = s) := hsl
  rw [hsl]
  rw [hsl] at hs
  clear hsl
  go_enter Tryd.func36, Tryd.ntmps36
  go_wp2_with (at_builtin; refine wpList_append_rowH _ rfl _ _ rfl w.heap.size (.slice none 0 0) [] b p s c rfl rfl HSL.out.symm (World.ownsRow_nil _ _ _ _) hb hp (by rw [HSL.out]; simp; omega) (Nat.le_refl _) ?_)
  intro v' w' hown hgrow
  have hb1 : Below w.heap.size w w' := (Below.refl _ _).grown hgrow (Nat.le_refl _) (fun k hk => by simp [Value.ownBlock] at hk)
  have hown : w'.ownsRow w.heap.size 5 1 v' b.length (Bs b) := hown
  have hbl : b.length ≤ 140737488300000 := by rw [HSL.out]; exact hs
  clear hgrow hb
  have hsz := hb1.size
  go_wp2_with (at_builtin; refine wpList_append_own _ rfl _ _ 22 rfl w.heap.size 5 i0 (.int .u8 0) 1 1 Tryd.underlying22 hi hz0 hz1 hz2 rfl (by decide) _ _ _ rfl (hown.alloc _) ⟨w'.heap.size, 0, none⟩ 1 1 [.int .u8 128] rfl rfl (cell_one_new _ _ _) ?c2 ?c3 ?c4 ?c5 ?_)
  case c2 => intro u hu; simp at hu; subst hu; rfl
  case c3 => unfold maxLen; omega
  case c4 => omega
  case c5 => simp; omega
  intro v1 w1 hown' hgrow _
  have R := rel_push (c := 128) rfl hown hb1 hsz hown' hgrow
  clear hown' hgrow hown hb1 hsz
  go_wp2
  go_loopw [3] (fun v wr => ∃ k : Nat, k ≤ z ∧ wr.ownsRow w.heap.size 5 1 v (b ++ 128 :: List.replicate k 0).length (Bs (b ++ 128 :: List.replicate k 0)) ∧ Below w.heap.size w wr)
    (fun v _ => s + 1 + z - lenW v)
  case atStart => exact ⟨0, by omega, R.1, R.2⟩
  case round =>
    clear R hbl
    obtain ⟨k, hk, hown, hbl⟩ := hrel
    obtain ⟨q, cq, rfl⟩ := owns_len hown
    have hll : (b ++ 128 :: List.replicate k 0).length = s + 1 + k := by simp [HSL.out]; omega
    have HE : Hid ((b ++ 128 :: List.replicate k 0) ++ [0] = b ++ 128 :: List.replicate (k + 1) 0) := by show _ = _; rw [List.append_assoc, List.cons_append, ← List.replicate_succ']
    rw [hll] at hown ⊢
    have hlI : ((s + 1 + k : Nat) : Int) = ((s + 1 + k : Nat) : Int) := rfl
    generalize hys : (b ++ 128 :: List.replicate k 0) = ys at hown hll HE
    have hsz := hbl.size
    by_cases hlt : k < z
    · have hc : ¬ (((s + 1 + k : Nat) : Int) % 64 = 56) := by omega
      obtain ⟨l, hl⟩ : ∃ l, s + 1 + k = l := ⟨_, rfl⟩
      have HL : Hid _ := hl
      rw [hl] at hc hown hll ⊢
      have hlm : l ≤ 140737488300100 := by omega
      clear hys hl
      go_wp2_with (at_builtin; refine wpList_append_own _ rfl _ _ 22 rfl w.heap.size 5 i0 (.int .u8 0) 1 1 Tryd.underlying22 hi hz0 hz1 hz2 rfl (by decide) _ _ _ rfl (hown.alloc _) ⟨wr.heap.size, 0, none⟩ 1 1 [.int .u8 0] rfl rfl (cell_one_new _ _ _) ?c2 ?c3 ?c4 ?c5 ?_)
      case c2 => first | rfl | (intro u hu; simp at hu; subst hu; rfl)
      case c3 => unfold maxLen; omega
      case c4 => omega
      case c5 => first | omega | (simp; omega)
      intro v2 w2 hown' hgrow _
      have R := rel_push (c := 0) (xs := ys) rfl (by rw [hll]; exact hown) hbl hsz (by rw [hll]; exact hown') hgrow
      obtain ⟨q2, c2, e2⟩ := owns_len hown'
      clear hown' hgrow hown
      go_wp2
      go_roundw
      case rel =>
        refine ⟨k + 1, by omega, ?_, R.2⟩
        rw [← HE.out]; exact R.1
      case measure => rw [e2]; simp [lenW]; have := HL.out; omega
    · obtain rfl : k = z := by omega
      have hc : ((s + 1 + k : Nat) : Int) % 64 = 56 := by omega
      rw [← hys] at hown hll
      have hown : wr.ownsRow w.heap.size 5 1 (.slice q (s + 1 + k) cq) (b ++ 128 :: List.replicate k 0).length (Bs (b ++ 128 :: List.replicate k 0)) := by rw [hll]; exact hown
      clear hys HE
      have hz64 : k < 64 := by omega
      generalize hxs : b ++ 128 :: List.replicate k 0 = B0 at hown hll
      have HX : Hid (longerN b = B0 ++ be8 (s * 8)) := by show _ = _; rw [HT.out, ← hxs]
      clear hxs
      go_wp2
      go_loopw [5, 3] (fun t v wr => ∃ j : Nat, j ≤ 8 ∧ t = .int .i64 (7 - (j : Int)) ∧ wr.ownsRow w.heap.size 5 1 v (B0 ++ (be8 (s * 8)).take j).length (Bs (B0 ++ (be8 (s * 8)).take j)) ∧ Below w.heap.size w wr)
        (fun t _ _ => (intOf t + 1).toNat)
      case atStart => exact ⟨0, by omega, rfl, by simpa using hown, hbl⟩
      case round =>
        clear hown hbl hsz
        rename World => wq
        obtain ⟨j, hj8, rfl, hown, hbl⟩ := hrel
        by_cases hlt2 : j < 8
        · have hsz := hbl.size
          have hat := be8_at (s * 8) j hlt2
          have hsh : 8 * (7 - (j : Int)) = ((8 * (7 - j) : Nat) : Int) := by omega
          have hs64 : 8 * (7 - j) < 64 := by omega
          have hlen : (B0 ++ (be8 (s * 8)).take j).length ≤ 140737488300200 := by
            rw [List.length_append, hll, List.length_take, be8_len]; omega
          have HE : Hid ((B0 ++ (be8 (s * 8)).take j) ++ [(be8 (s * 8)).getD j 0] = B0 ++ (be8 (s * 8)).take (j + 1)) := by
            show _ = _
            rw [List.append_assoc, List.take_add_one]
            congr 1
            congr 1
            simp [List.getD, List.getElem?_eq_getElem (show j < (be8 (s * 8)).length by rw [be8_len]; omega)]
          have HA : Hid _ := hat
          generalize (be8 (s * 8)).getD j 0 = ch at HA HE
          generalize (B0 ++ (be8 (s * 8)).take j) = xs at hown hlen HE
          generalize 8 * (7 - j) = sv at hsh hs64 HA
          clear hat hc
          go_wp2_with (at_builtin; refine wpList_append_own _ rfl _ _ 22 rfl w.heap.size 5 i0 (.int .u8 0) 1 1 Tryd.underlying22 hi hz0 hz1 hz2 rfl (by decide) _ _ _ rfl (hown.alloc _) ⟨wq.heap.size, 0, none⟩ 1 1 [.int .u8 (((s : Int) * 8) / 2 ^ sv % 256)] rfl rfl (cell_one_new _ _ _) ?c2 ?c3 ?c4 ?c5 ?_)
          case c2 => first | rfl | (intro u hu; simp at hu; subst hu; rfl)
          case c3 => unfold maxLen; omega
          case c4 => omega
          case c5 => first | omega | (simp; omega)
          intro v3 w3 hown' hgrow _
          have R := rel_push (c := ch) (by rw [HA.out]; rw [Int.natCast_emod, Int.natCast_ediv, Int.natCast_pow]; rfl) hown hbl hsz hown' hgrow
          clear hown' hgrow hown
          go_wp2
          go_roundw
          case rel =>
            refine ⟨j + 1, by omega, by congr 1; omega, ?_, R.2⟩
            rw [← HE.out]; exact R.1
          case measure => simp [intOf]; omega
        · obtain rfl : j = 8 := by omega
          rw [List.take_of_length_le (by rw [be8_len]; omega), ← HX.out] at hown
          rw [show (7 : Int) - ((8 : Nat) : Int) = -1 from rfl]
          go_wp2
          go_ret
          exact ⟨_, rfl, hown, hbl⟩
end Go.Proofs.YtoagaddciapmkaaDoor
