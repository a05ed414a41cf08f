/-
  Bytes in sixteens, and sixteens read: the document's.
-/
import Derived.Test.YtoagaddciapmkaaDoorXUnhex
import Derived.Deep.RegionHeldLaw
import Derived.Deep.RegionHeld3
namespace Go.Proofs.YtoagaddciapmkaaDoor
open Go.RowKit Go.WideShapes

theorem step_append_b {ops : Array Oper} {o : Oper} {a : Act} {w : World} {K : Act → World → Prop} {Q : Exit → Act → World → Prop} {E : Prop} (hgd : o.guard = none) (s x : Operand)
    (ho : o.op = .call { callee := .builtin .append, args := #[s, x], argTypes := #[22, 22] }) (base : Nat) (v : Value) (xs ys : List Nat) (p : Option Addr) (m c : Nat) (hs : a.eval s = v) (hx : a.eval x = .slice p m c) (hm : m = ys.length)
    (hown : w.ownsRow base 5 1 v xs.length (Bs xs)) (hin : BIn w p ys) (hp : p = none → c = 0) (hlen : xs.length + ys.length ≤ 140737488355328) (hbase : base ≤ w.heap.size)
    (h : ∀ v' w', w'.ownsRow base 5 1 v' (xs ++ ys).length (Bs (xs ++ ys)) → w.grownBy w' v.ownBlock → K (a.put o.dst v') w') : if Region.wanted o (yielded ops a.tmps) = true then Oper.wp Tryd.prog o a w K Q else E := by
  subst hm
  have hw : Region.wanted o (yielded ops a.tmps) = true := by simp [Region.wanted, hgd]
  rw [if_pos hw]
  obtain ⟨i0, hi, hz0, hz1, hz2⟩ := info_parts info5u
  obtain ⟨v', w', hr, h2, h3⟩ := run_append_row (P := Tryd.prog) Tryd.underlying22 hi hz0 hz1 hz2 base o.type v xs ys p c hown hin hp hlen hbase
  unfold Oper.wp execOp
  simp only [ho, resolve, invoke, builtin, Sem.run_bind, Sem.run_pure, Result.andThen_ok, List.map_toArray, List.map_cons, List.map_nil, hs, hx, hr]
  exact h v' w' h2 h3
theorem bin_two (w : World) (a b : Nat) (ha : a < 256) (hb : b < 256) : BIn (w.alloc (.cells #[.int .u8 (a : Int), .int .u8 (b : Int)] 5)) (some ⟨w.heap.size, 0, none⟩) [a, b] := by
  refine ⟨fun _ => ⟨w.heap.size, 0, rfl, fun i hi => ?_⟩, ?_⟩
  · rw [Nat.zero_add, cell_of_row _ _ _ _ _ _ (_root_.Go.heap_alloc_new _ _)]
    match i, hi with
    | 0, _ => rfl
    | 1, _ => rfl
  · intro c hc
    simp only [List.mem_cons, List.not_mem_nil, or_false] at hc
    rcases hc with rfl | rfl <;> assumption
theorem own_binu {w : World} {B : Nat} {v : Value} {xs : List Nat} (h : w.ownsRow B 5 1 v xs.length (Bs xs)) (hx : ∀ x ∈ xs, x < 256) : ∃ p c, v = .slice p xs.length c ∧ BIn w p xs := by
  rcases h.2 with ⟨rfl, h0⟩ | ⟨g, cap, cur, rfl, hB, hg, hn, _, _, ht⟩
  · rw [h0]
    exact ⟨none, 0, rfl, ⟨fun hp => by omega, hx⟩⟩
  · refine ⟨some ⟨g, 0, none⟩, cap, rfl, ⟨fun _ => ⟨g, 0, rfl, fun i hi => ?_⟩, hx⟩⟩
    rw [Nat.zero_add, cell_of_row _ _ _ _ _ _ hg]
    have e1 : cur[i]? = (cur.toList.take (xs.length * 1))[i]? := by rw [List.getElem?_take_of_lt (by omega), Array.getElem?_toList]
    rw [e1, ht]
    simp [Bs, List.getD, List.getElem?_eq_getElem hi]
theorem cell_block' {w w' : World} {g : Nat} (h : w'.heap[g]? = w.heap[g]?) (i : Nat) : w'.cell? ⟨g, i, none⟩ = w.cell? ⟨g, i, none⟩ := by
  simp [World.cell?, h]
inductive RHexI (w : World) (xs : List Nat) (v t : Value) (wr : World) : Prop where
  | intro (k : Nat) (hk : k ≤ xs.length) (ht : t = .int .i64 (k : Int)) (ho : wr.ownsRow w.heap.size 5 1 v (hexN (xs.take k)).length (Bs (hexN (xs.take k)))) (hb : Below w.heap.size w wr)
set_option maxHeartbeats 2000000 in
set_option maxRecDepth 100000 in
theorem rhex_any (p : Option Addr) (c : Nat) (xs : List Nat) (w : World) (hb : BIn w p xs) (hsz : xs.length ≤ 1000000) :
    Calls Tryd.prog 40 #[.slice p xs.length c] w fun e w' => e = .returned (.string (strOf (hexN xs))) ∧ Below w.heap.size w w' := by
  go_enter Tryd.func40, Tryd.ntmps40
  go_wp2
  go_loopw [3, 4] (fun v t wr => RHexI w xs v t wr) (fun _ t _ => xs.length - (intOf t).toNat)
  case atStart => exact ⟨0, by omega, rfl, World.ownsRow_nil _ _ _ _, Below.refl _ _⟩
  case round =>
    obtain ⟨k, hk, rfl, hown, BW⟩ := hrel
    have hsw := BW.size
    by_cases hlt : k < xs.length
    · have hb2 := hb.below BW
      obtain ⟨b, o, rfl, hcell⟩ := hb2.1 (by omega)
      have hck := hcell k hlt
      obtain ⟨_, _, e0, hcell0⟩ := hb.1 (by omega)
      have hbl : b < w.heap.size := by
        simp only [Option.some.injEq, Addr.mk.injEq, and_true] at e0
        rw [e0.1]; exact block_lt_of_cell (hcell0 k hlt)
      have hx := getD_lt hb.2 k
      have HT : Hid _ := hexN_take xs k hlt
      have hlen : (hexN (xs.take k)).length ≤ 2000000 := by rw [hexN_len, List.length_take]; omega
      have hkI : (k : Int) < (xs.length : Int) := by omega
      generalize xs.getD k 0 = x at hck hx HT
      have s1 := six_at (x / 16) (by omega)
      have s2 := six_at (x % 16) (by omega)
      have c1 := hexC_byte (n := x / 16) (by omega)
      have c2 := hexC_byte (n := x % 16) (by omega)
      obtain ⟨xh, hxh⟩ : ∃ xh, x / 16 = xh := ⟨_, rfl⟩
      obtain ⟨xl, hxl⟩ : ∃ xl, x % 16 = xl := ⟨_, rfl⟩
      have q1 : (x : Int) / 16 = (xh : Int) := by omega
      have q2 : (x : Int) % 16 = (xl : Int) := by omega
      have q3 : (x : Int).tdiv 16 = (xh : Int) := by rw [Int.tdiv_eq_ediv_of_nonneg (by omega)]; omega
      have q4 : (x : Int).tmod 16 = (xl : Int) := by rw [Int.tmod_eq_emod_of_nonneg (by omega)]; omega
      have q5 : (xh : Int) % 256 = (xh : Int) := by omega
      have q6 : (xl : Int) % 256 = (xl : Int) := by omega
      have q7 : IntKind.u8.wrap (xh : Int) = (xh : Int) := by rw [IntKind.wrap_u8]; omega
      have q8 : IntKind.u8.wrap (xl : Int) = (xl : Int) := by rw [IntKind.wrap_u8]; omega
      have q9 : (xh : Int) < 16 := by omega
      have q10 : (xl : Int) < 16 := by omega
      rw [hxh] at s1 HT c1
      rw [hxl] at s2 HT c2
      unfold sixS at s1 s2
      generalize hexC xh = ch at s1 HT c1
      generalize hexC xl = cl at s2 HT c2
      generalize hexN (xs.take k) = ys at hown HT hlen
      have CK : Hid (∀ w' : World, Below w.heap.size wr w' → w'.cell? ⟨b, o + k, none⟩ = some (.int .u8 (x : Int))) := fun w' hw => by rw [cell_block' (hw.block b hbl)]; exact hck
      have OW : Hid ((wr.drew.alloc (.cells #[.int .u8 (ch : Int), .int .u8 (cl : Int)] 5)).ownsRow w.heap.size 5 1 u3 ys.length (Bs ys)) := (show wr.drew.ownsRow w.heap.size 5 1 u3 ys.length (Bs ys) from hown).alloc _
      have OB : Hid (∀ g, u3.ownBlock = some g → w.heap.size ≤ g) := fun g hg => (hown.lt g hg).1
      have B2 : Hid _ := bin_two wr.drew ch cl (by omega) (by omega)
      have Hb : Hid _ := hb
      clear hxh hxl hb hb2 hcell hcell0 e0 hown
      go_upto_region 5 with fail
      go_region_held3 (fun w' => w'.cell? ⟨b, o + k, none⟩ = some (.int .u8 (x : Int)))
        (first | exact hck | go_keep | exact CK.out _ (Below.refl _ _).drew | exact CK.out _ ((Below.refl _ _).drew.alloc hsw _) | exact CK.out _ (((Below.refl _ _).drew.alloc hsw _).grown hg6 (Nat.le_trans hsw (by simp)) (fun g hg => OB.out g hg)))
        (first
          | (refine step_append_b rfl _ _ rfl w.heap.size u3 ys [ch, cl] (some ⟨wr.heap.size, 0, none⟩) 2 2 rfl rfl rfl OW.out B2.out (by intro e; cases e) (by simp; omega) (Nat.le_trans hsw (by simp)) ?_; intro v6 w6 ho6 hg6)
          | fail)
      all_goals
        have B6 : Below w.heap.size w w6 := BW.trans (((Below.refl _ _).drew.alloc hsw _).grown hg6 (Nat.le_trans hsw (by simp)) (fun g hg => OB.out g hg))
        clear hg6 OW OB CK
        go_wp2
        go_roundw
        case rel =>
          refine ⟨k + 1, by omega, rfl, ?_, B6⟩
          rw [HT.out, List.append_assoc]
          exact ho6
        case measure => simp [intOf]; omega
    · obtain rfl : k = xs.length := by omega
      rw [List.take_length] at hown
      obtain ⟨p2, c2, rfl, hi2⟩ := own_binu hown (hexN_byte hb.2)
      have cv := conv_at (c := c2) hi2 rfl
      have Hb : Hid _ := hb
      clear hown hi2 hb
      go_wp2
      go_ret
      exact ⟨rfl, BW⟩
/-- A sixteen's worth: the document's. -/
theorem rhalf_any (c : Nat) (hc : c < 256) (w : World) : Calls Tryd.prog 82 #[.int .u8 (c : Int)] w fun e w' => e = .returned (.int .i64 (worthN c)) ∧ w' = w := by
  by_cases h1 : 48 ≤ c ∧ c ≤ 57
  · have e : worthN c = (c : Int) - 48 := by rw [worth_some (x := c - 48) (by unfold halfN; rw [if_pos h1])]; omega
    have a1 : (48 : Int) ≤ (c : Int) := by omega
    have a2 : (c : Int) ≤ 57 := by omega
    go_enter Tryd.func82, Tryd.ntmps82
    rw [e]
    clear e
    go_wp2
    go_ret
    exact ⟨rfl, rfl⟩
  · by_cases h2 : 97 ≤ c ∧ c ≤ 102
    · have e : worthN c = (c : Int) - 97 + 10 := by rw [worth_some (x := c - 87) (by unfold halfN; rw [if_neg h1, if_pos h2])]; omega
      have a1 : (97 : Int) ≤ (c : Int) := by omega
      have a2 : (c : Int) ≤ 102 := by omega
      have a3 : (48 : Int) ≤ (c : Int) := by omega
      have a4 : ¬ ((c : Int) ≤ 57) := by omega
      go_enter Tryd.func82, Tryd.ntmps82
      rw [e]
      clear e
      go_wp2
      go_ret
      exact ⟨rfl, rfl⟩
    · have e : worthN c = -1 := worth_none (by unfold halfN; rw [if_neg h1, if_neg h2])
      go_enter Tryd.func82, Tryd.ntmps82
      rw [e]
      clear e
      by_cases a3 : (48 : Int) ≤ (c : Int)
      · have a4 : ¬ ((c : Int) ≤ 57) := by omega
        by_cases a1 : (97 : Int) ≤ (c : Int)
        · have a2 : ¬ ((c : Int) ≤ 102) := by omega
          go_wp2
          go_ret
          exact ⟨rfl, rfl⟩
        · go_wp2
          go_ret
          exact ⟨rfl, rfl⟩
      · have a1 : ¬ ((97 : Int) ≤ (c : Int)) := by omega
        go_wp2
        go_ret
        exact ⟨rfl, rfl⟩
end Go.Proofs.YtoagaddciapmkaaDoor
