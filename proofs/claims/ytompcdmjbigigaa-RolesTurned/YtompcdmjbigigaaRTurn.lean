/-
  The law RolesTurned walked.
-/
import Derived.Test.YtompcdmjbigigaaRAlive
import Derived.Test.YtompcdmjbigigaaRApa2
import Derived.Deep.AppendLies
namespace Go.Proofs.Ytompcdmjbigigaa
open Go.RowKit Go.WideShapes Go.Joins Go.Maps

def cellsQ (l : List Pr) : List Value := l.flatMap fun p => [.string p.1, .string p.2]
theorem cellsQ_snoc (l : List Pr) (p : Pr) : cellsQ (l ++ [p]) = cellsQ l ++ [.string p.1, .string p.2] := by
  unfold cellsQ
  rw [List.flatMap_append]
  simp
theorem cellsQ_len (l : List Pr) : (cellsQ l).length = l.length * 2 := by
  induction l with
  | nil => rfl
  | cons a l ih => simp only [cellsQ, List.flatMap_cons, List.length_append, List.length_cons, List.length_nil] at *; omega
theorem cellsQ_at : ∀ (l : List Pr) (i : Nat), i < l.length → (cellsQ l)[i * 2]? = some (.string (l.getD i zP).1) ∧ (cellsQ l)[i * 2 + 1]? = some (.string (l.getD i zP).2)
  | [], i, h => by simp at h
  | a :: l, 0, _ => ⟨rfl, rfl⟩
  | a :: l, i + 1, h => by
    have ih := cellsQ_at l i (by simpa using h)
    have e : cellsQ (a :: l) = .string a.1 :: .string a.2 :: cellsQ l := rfl
    rw [e, show (i + 1) * 2 = i * 2 + 1 + 1 by omega, show i * 2 + 1 + 1 + 1 = (i * 2 + 1) + 1 + 1 by omega]
    simp only [List.getElem?_cons_succ, List.getD_cons_succ]
    exact ih
/-- A row of pairs of one's own. -/
abbrev OwnQ (w : World) (base : Nat) (v : Value) (l : List Pr) : Prop := w.ownsRow base 28 2 v l.length (cellsQ l)
theorem OwnQ.read {w : World} {base : Nat} {v : Value} {l : List Pr} (h : OwnQ w base v l) : ∃ q c, v = .slice q l.length c ∧ PrsIn w q l c := by
  rcases h.2 with ⟨rfl, h0⟩ | ⟨g, cap, cur, rfl, hb, hg, h1, h2, h3, h4⟩
  · have : l = [] := List.length_eq_zero_iff.1 h0
    subst this
    exact ⟨none, 0, rfl, ⟨fun h => absurd h (by simp), by simp, by simp, fun _ => rfl⟩⟩
  · refine ⟨_, _, rfl, ⟨fun _ => ⟨g, 0, rfl, fun i hi => ?_⟩, h1, h2, fun e => by cases e⟩⟩
    have key : ∀ j, j < l.length * 2 → w.cell? ⟨g, 0 + j, none⟩ = (cellsQ l)[j]? := by
      intro j hj
      have e1 : (cellsQ l)[j]? = cur[j]? := by rw [← h4, List.getElem?_take, if_pos hj, Array.getElem?_toList]
      rw [Nat.zero_add, e1]
      simp [World.cell?, hg]
    obtain ⟨k1, k2⟩ := cellsQ_at l i hi
    exact ⟨(key _ (by omega)).trans k1, by rw [Nat.add_assoc]; exact (key _ (by omega)).trans k2⟩
def trn (p : Pr) : Pr := (p.2, p.1)
theorem info_pair : (Try.prog.info? 28).map (fun i => (i.zero, i.size, i.bytes)) = some (some (.agg #[.string ⟨#[]⟩, .string ⟨#[]⟩]), 2, 32) := by kernel_rfl
theorem two_strs (a b : ByteArray) : ∀ u ∈ [Value.string a, Value.string b], u.oneCell' = true := by
  intro u hu
  simp only [List.mem_cons, List.not_mem_nil, or_false] at hu
  rcases hu with rfl | rfl <;> rfl
/-- Turned pairs hold the same apart. -/
theorem trn_v (A T : List Pr) (u r : ByteArray) : apV (A.map trn) T u r = apV A T u r ∧ apE (A.map trn) T r = apE A T r := by
  have he : apE (A.map trn) T r = apE A T r := by unfold apE; rw [List.length_map]
  refine ⟨?_, he⟩
  have hb : apB (A.map trn) T u r = apB A T u r := by
    unfold apB
    rw [List.any_map]
    congr 1
    funext p
    exact Bool.or_comm _ _
  unfold apV
  rw [he, hb]
/-- Who did not act is free. -/
theorem free_v {A T : List Pr} {u r : ByteArray} (h : apV A T u r = true) : T.any (fun t => decide (t.1 = u)) = true := by
  unfold apV at h
  rw [Bool.and_eq_true] at h
  obtain ⟨p, _, hp⟩ := List.any_eq_true.1 h.2
  unfold hitB at hp
  rw [Bool.or_eq_true, Bool.and_eq_true, Bool.and_eq_true] at hp
  have key : ∀ x, actIn T u x = true → T.any (fun t => decide (t.1 = u)) = true := by
    intro x hx
    obtain ⟨t, ht, h1⟩ := List.any_eq_true.1 hx
    unfold isAct at h1
    rw [Bool.and_eq_true] at h1
    exact List.any_eq_true.2 ⟨t, ht, decide_eq_true (of_decide_eq_true h1.1).symm⟩
  rcases hp with h1 | h1
  · exact key _ h1.2
  · exact key _ h1.2
theorem anyP_take {f : Pr → Bool} {L : List Pr} {k : Nat} (hk : k < L.length) : (L.take (k + 1)).any f = ((L.take k).any f || f (L.getD k zP)) := by
  rw [take_snoc L zP hk, List.any_append]
  simp
theorem own_far {W w3 : World} {base n size : Nat} {e : TypeId} {v : Value} {xs : List Value} (h : W.ownsRow base e size v n xs) (hg : W.grownBy w3 v.ownBlock) {a : Addr} {x : Value} (hc : W.cell? a = some x) (ha : a.block < base) : w3.cell? a = some x :=
  hg.cell hc (fun e => by have := (h.lt _ e.symm).1; omega)
theorem own_far2 {w W w3 : World} {o : Obj} {base n size : Nat} {e : TypeId} {v : Value} {xs : List Value} (hW : W = (w.alloc o).drew) (h : w.ownsRow base e size v n xs) (hg : W.grownBy w3 v.ownBlock) {a b : Addr} {x y : Value} (hc : w.cell? a = some x) (hd : w.cell? b = some y) (ha : a.block < base) (hb : b.block < base) :
    w3.cell? b = some y ∧ w3.cell? a = some x := by
  subst hW
  exact ⟨own_far (W := (w.alloc o).drew) (h.alloc o) hg (below_cell hd (below_new _ _).drew) hb, own_far (W := (w.alloc o).drew) (h.alloc o) hg (below_cell hc (below_new _ _).drew) ha⟩
set_option maxHeartbeats 4000000 in
set_option maxRecDepth 8000 in
theorem turn_walk (qa : Option Addr) (ca : Nat) (A : List Pr) (qt : Option Addr) (ct : Nat) (T : List Pr) (u r : ByteArray) (w : World) (ha : PrsIn w qa A ca) (ht : PrsIn w qt T ct) (_ : u.size ≤ maxLen) (hr : r.size ≤ maxLen) :
    Calls Try.prog 8 #[.slice qa A.length ca, .slice qt T.length ct, .string u, .string r] w fun e w' => e = .returned (.bool true) ∧ Below w.heap.size w w' := by
  have AL := alive_any w
  have HH : Hid (PrsIn w qa A ca ∧ PrsIn w qt T ct ∧ r.size ≤ maxLen) := ⟨ha, ht, hr⟩
  have hnI : (A.length : Int) ≤ 9223372036854775807 := by have := ha.le; have := ha.cap; unfold maxLen at this; omega
  have hmI : (T.length : Int) ≤ 9223372036854775807 := by have := ht.le; have := ht.cap; unfold maxLen at this; omega
  obtain ⟨n, hN⟩ : ∃ n, A.length = n := ⟨_, rfl⟩
  obtain ⟨m, hM⟩ : ∃ m, T.length = m := ⟨_, rfl⟩
  rw [hN] at hnI ⊢
  rw [hM] at hmI ⊢
  have HN : Hid (A.length = n ∧ T.length = m) := ⟨hN, hM⟩
  clear ha ht hr hN hM
  go_enter Try.func8, Try.ntmps8
  go_wp2_with fail
  refine AL.mono ?_
  rintro e w1 ⟨rfl, hb1⟩
  simp only []
  have HB1 : Hid (Below w.heap.size w w1) := hb1
  clear AL hb1
  by_cases h1 : 40 < n
  · have i1 : (40 : Int) < (n : Int) := by omega
    clear h1
    go_wp2_with fail
    go_ret
    exact ⟨rfl, HB1.out⟩
  have i1 : ¬ (40 : Int) < (n : Int) := by omega
  by_cases h2 : 1100 < m
  · have i2 : (1100 : Int) < (m : Int) := by omega
    clear h1 h2
    go_wp2_with fail
    go_ret
    exact ⟨rfl, HB1.out⟩
  have i2 : ¬ (1100 : Int) < (m : Int) := by omega
  have HS : Hid (n ≤ 40 ∧ m ≤ 1100) := ⟨by omega, by omega⟩
  clear h1 h2
  go_wp2_with fail
  obtain ⟨i0, hi, hz0, hz1, hz2⟩ := info_parts info_pair
  have HI0 : Hid (Try.prog.info? 28 = some i0 ∧ i0.zero = some (.agg #[.string ⟨#[]⟩, .string ⟨#[]⟩]) ∧ i0.size = 2 ∧ i0.bytes = 32) := ⟨hi, hz0, hz1, hz2⟩
  clear hi hz0 hz1 hz2
  go_loopw [10, 11] (fun z t wr => ∃ (k : Nat) (q : Option Addr) (cc : Nat), k ≤ n ∧ t = .int .i64 (k : Int) ∧ z = .slice q k cc ∧ OwnQ wr w1.heap.size (.slice q k cc) ((A.take k).map trn) ∧ Below w1.heap.size w1 wr) (fun _ t _ => n - (intOf t).toNat)
  case atStart => exact ⟨0, none, 0, Nat.zero_le _, rfl, rfl, World.ownsRow_nil _ _ _ _, Below.refl _ _⟩
  case round =>
    obtain ⟨k, q, cc, hk, rfl, rfl, ho, hb⟩ := hrel
    have HO : Hid (OwnQ wr w1.heap.size (.slice q k cc) ((A.take k).map trn) ∧ Below w1.heap.size w1 wr) := ⟨ho, hb⟩
    clear ho
    by_cases hlt : k < n
    · have hkI : (k : Int) < (n : Int) := by omega
      have hk0 : (0 : Int) ≤ (k : Int) := by omega
      have HK : Hid (k < n ∧ k < A.length) := ⟨hlt, by have := HN.out; omega⟩
      have hen := HH.out.1.below (below_more HB1.out hb)
      obtain ⟨fb, fo, rfl⟩ := hen.addr (by have := HK.out; omega)
      obtain ⟨z0, z1⟩ := hen.at (i := k) HK.out.2
      obtain ⟨p, hp⟩ : ∃ p, A.getD k zP = p := ⟨_, rfl⟩
      rw [hp] at z0 z1
      have HP : Hid ((A.take (k + 1)).map trn = (A.take k).map trn ++ [trn p]) := by
        show _ = _
        rw [take_snoc A zP HK.out.2, hp, List.map_append]; rfl
      obtain ⟨p1, p2⟩ := p
      simp only at z0 z1
      have HZ : Hid (wr.cell? ⟨fb, fo + k * 2, none⟩ = some (.string p1) ∧ wr.cell? ⟨fb, fo + k * 2 + 1, none⟩ = some (.string p2) ∧ fb < w1.heap.size) := ⟨z0, z1, by
        have h1 := World.block_lt_of_cell? _ _ (HH.out.1.at (i := k) HK.out.2).1
        have h2 := HB1.out.size
        simp only at h1
        omega⟩
      have n0 := World.new_ne wr _ z0
      have n1 := World.new_ne wr _ z1
      have hkl : ((A.take k).map trn).length = k := by simp; have := HK.out; omega
      have ho2 := HO.out.1
      unfold OwnQ at ho2
      rw [hkl] at ho2
      have HOW : Hid (wr.ownsRow w1.heap.size 28 2 (.slice q k cc) k (cellsQ ((A.take k).map trn))) := ho2
      have HKL : Hid (((A.take k).map trn).length = k) := hkl
      clear hk hlt hen hp hb ho2 hkl
      go_wp2_with fail
      go_region_held3 (fun w' => w'.cell? ⟨fb, fo + k * 2 + 1, none⟩ = some (.string p2) ∧ w'.cell? ⟨fb, fo + k * 2, none⟩ = some (.string p1)) (first | go_keep | exact own_far2 rfl HOW.out hgrow HZ.out.1 HZ.out.2.1 HZ.out.2.2 HZ.out.2.2)
        (first
          | (refine step_append_lies _ (by rfl) (.tmp 38) (.tmp 50) 29 (by rfl) w1.heap.size 28 i0 _ 2 32 Try.underlying29 HI0.out.1 HI0.out.2.1 HI0.out.2.2.1 HI0.out.2.2.2 rfl (by omega) (.slice q k cc) k (cellsQ ((A.take k).map trn)) (by rfl) (HOW.out.alloc _) ⟨wr.heap.size, 0, none⟩ 1 1 [.string p2, .string p1] (by rfl) (by rfl) (World.news_of_block (cs := #[.string p2, .string p1]) (t := 28) (fr := (0, 0)) (_root_.Go.heap_alloc_new _ _)) (two_strs _ _) (by omega) (by have := HK.out; have := HS.out; unfold maxLen; omega) (by have := HK.out; have := HS.out; omega) (by have := HO.out.2.size; simp; omega) (wr.heap.size + 1) (by simp) ?_; intro g' cap' w3 hown3 hgrow hat hlt)
          | fail)
      have b3 : Below w1.heap.size w1 w3 := (HO.out.2.trans ((below_new wr _).drew.mono HO.out.2.size)).grown hgrow (by have := HO.out.2.size; simp; omega) (fun j ej => (HOW.out.lt j ej).1)
      have HN3 : Hid (OwnQ w3 w1.heap.size (.slice (some ⟨g', 0, none⟩) (k + 1) cap') ((A.take (k + 1)).map trn) ∧ Below w1.heap.size w1 w3) := ⟨by
        show World.ownsRow _ _ _ _ _ _ _
        rw [HP.out, List.length_append, HKL.out, cellsQ_snoc]
        exact hown3, b3⟩
      clear hown3 hgrow hat b3
      go_wp2_with fail
      go_roundw
      case rel => exact ⟨k + 1, some ⟨g', 0, none⟩, cap', HK.out.1, by go_num, rfl, HN3.out.1, HN3.out.2⟩
      case measure => have := HK.out; simp [intOf]; omega
    · obtain rfl : k = n := by omega
      have hAk : (A.take k).map trn = A.map trn := by rw [← HN.out.1, List.take_length]
      rw [hAk] at HO
      have HW : Hid (Below w.heap.size w wr) := below_more HB1.out hb
      obtain ⟨q9, c9, e9, hQ⟩ := HO.out.1.read
      have hml : (A.map trn).length = k := by rw [List.length_map]; exact HN.out.1
      rw [hml] at e9
      simp only [Value.slice.injEq, true_and] at e9
      obtain ⟨rfl, rfl⟩ := e9
      have P1 := Apart_any qa ca A qt ct T u r wr (HH.out.1.below HW.out) (HH.out.2.1.below HW.out) HH.out.2.2
      have P2 : Hid (∀ w', Below wr.heap.size wr w' → Calls Try.prog 11 #[.slice q k cc, .slice qt m ct, .string u, .string r] w' fun e w'' => e = .returned (.tuple #[.bool (apV A T u r), .int .i64 (apE A T r : Nat)]) ∧ Below w'.heap.size w' w'') := fun w' hb' => by
        have := Apart_any q cc (A.map trn) qt ct T u r w' (hQ.below hb') (HH.out.2.1.below (below_more HW.out hb')) HH.out.2.2
        rw [hml, HN.out.2, (trn_v A T u r).1, (trn_v A T u r).2] at this
        exact this
      rw [HN.out.1, HN.out.2] at P1
      have HV : Hid (apV A T u r = true → T.any (fun t => decide (t.1 = u)) = true) := free_v
      generalize apV A T u r = V at P1 P2 HV
      generalize apE A T r = E at P1 P2
      have ee : ((E : Int) == (E : Int)) = true := by simp
      have vv : (V == V) = true := by simp
      have ee2 : ((E : Int) != (E : Int)) = false := by simp
      have vv2 : (V != V) = false := by simp
      clear hk hlt hb hAk hml hQ
      go_wp2_with fail
      refine P1.mono ?_
      rintro e w4 ⟨rfl, hb4⟩
      simp only []
      have P3 := P2.out w4 hb4
      have HB4 : Hid (Below w.heap.size w w4) := below_more HW.out hb4
      clear P1 hb4
      go_wp2_with fail
      refine P3.mono ?_
      rintro e w5 ⟨rfl, hb5⟩
      simp only []
      have HB5 : Hid (Below w.heap.size w w5) := below_more HB4.out hb5
      have hmI : (m : Int) ≤ 1100 := by have := HS.out; omega
      clear P3 hb5
      go_wp2_with fail
      go_loopw [16, 17] (fun z t wr => ∃ j : Nat, j ≤ m ∧ t = .int .i64 (j : Int) ∧ z = .bool ((T.take j).any (fun t => decide (t.1 = u))) ∧ wr = w5) (fun _ t _ => m - (intOf t).toNat)
      case atStart => exact ⟨0, Nat.zero_le _, rfl, rfl, rfl⟩
      case round =>
        obtain ⟨j, hj, rfl, rfl, rfl⟩ := hrel
        by_cases hlt : j < m
        · have hjI : (j : Int) < (m : Int) := by omega
          have hj0 : (0 : Int) ≤ (j : Int) := by omega
          have HJ : Hid (j < m ∧ j < T.length) := ⟨hlt, by have := HN.out; omega⟩
          have hen := HH.out.2.1.below HB5.out
          obtain ⟨fb, fo, rfl⟩ := hen.addr (by have := HJ.out; omega)
          obtain ⟨z0, -⟩ := hen.at (i := j) HJ.out.2
          have HX : Hid ((T.take (j + 1)).any (fun t => decide (t.1 = u)) = ((T.take j).any (fun t => decide (t.1 = u)) || decide ((T.getD j zP).1 = u))) := anyP_take HJ.out.2
          have q1 := str_eq (T.getD j zP).1 u
          generalize (T.take j).any (fun t => decide (t.1 = u)) = B at HX ⊢
          generalize decide ((T.getD j zP).1 = u) = b at q1 HX
          generalize (T.getD j zP).1 = x at z0 q1
          clear hj hlt hen
          cases B with
          | true =>
            go_wp2_with fail
            go_roundw
            case rel => exact ⟨j + 1, HJ.out.1, by go_num, by rw [HX.out]; rfl, trivial⟩
            case measure => have := HJ.out; simp [intOf]; omega
          | false =>
            go_wp2_with fail
            go_roundw
            case rel => exact ⟨j + 1, HJ.out.1, by go_num, by rw [HX.out]; simp, trivial⟩
            case measure => have := HJ.out; simp [intOf]; omega
        · obtain rfl : j = m := by omega
          have HT : Hid (V = true → (T.take j).any (fun t => decide (t.1 = u)) = true) := fun h => by rw [← HN.out.2, List.take_length]; exact HV.out h
          generalize (T.take j).any (fun t => decide (t.1 = u)) = B at HT ⊢
          clear hj hlt ee vv ee2 vv2
          cases V with
          | false =>
            cases B with
            | false =>
              go_wp2_with fail
              go_ret
              exact ⟨rfl, HB5.out⟩
            | true =>
              go_wp2_with fail
              go_ret
              exact ⟨rfl, HB5.out⟩
          | true =>
            obtain rfl : B = true := HT.out rfl
            go_wp2_with fail
            go_ret
            exact ⟨rfl, HB5.out⟩
end Go.Proofs.Ytompcdmjbigigaa
