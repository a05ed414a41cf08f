/-
  How files and directories lie in memory: handed in, and in memory of the call's own.
-/
import Derived.Test.YtglcpfnpbcnejaaGreatDoorJ06
import Derived.Laws.OwnMore
import Derived.Test.YtglcpfnpbcnejaaGreatDoorJ04
import Derived.Test.YtglcpfnpbcnejaaGreatDoorJ05
namespace Go.Proofs.YtglcpfnpbcnejaaGreatDoor.Rm
open Go.RowKit Go.WideShapes

theorem wn_take {l : Pcs} (h : Good 4096 l) (k : Nat) : ∀ p ∈ l.take k, 0 ≤ p.2 ∧ p.2 ≤ 4096 := by
  intro p hp
  have := h.wn p (List.mem_of_mem_take hp)
  unfold Wn at this
  omega
theorem sum_step {l : Pcs} {k : Nat} (hk : k < l.length) : sumP (l.take (k + 1)) = sumP (l.take k) + (l.getD k (0, 0)).2 := by rw [take_snoc (d := (0, 0)) hk, sumP_snoc]
/-! ### Join -/
end Go.Proofs.YtglcpfnpbcnejaaGreatDoor.Rm
namespace Go.Proofs.YtglcpfnpbcnejaaGreatDoor.Rm
open Go.RowKit Go.WideShapes

def Is (xs : List Int) : List Value := xs.map (Value.int .i64)
def IOwn (w : World) (base : Nat) (v : Value) (xs : List Int) : Prop := w.ownsRow base 3 1 v xs.length (Is xs)
theorem iown_nil (w : World) (base : Nat) : IOwn w base (.slice none 0 0) [] := World.ownsRow_nil _ _ _ _
theorem IOwn.mono {w : World} {base base' : Nat} {v : Value} {xs : List Int} (h : IOwn w base v xs) (hb : base' ≤ base) : IOwn w base' v xs := by
  refine ⟨h.1, ?_⟩
  rcases h.2 with h' | ⟨g, cap, cur, h1, h2, h3⟩
  · exact .inl h'
  · exact .inr ⟨g, cap, cur, h1, Nat.le_trans hb h2, h3⟩
theorem IOwn.below {w w' : World} {base : Nat} {v : Value} {xs : List Int} (h : IOwn w base v xs) (hb : Below w.heap.size w w') : IOwn w' base v xs := by
  refine ⟨h.1, ?_⟩
  rcases h.2 with h' | ⟨g, cap, cur, h1, h2, h3, h4⟩
  · exact .inl h'
  · exact .inr ⟨g, cap, cur, h1, h2, (hb.block g (lt_heap h3)).trans h3, h4⟩
theorem IOwn.lt {w : World} {base : Nat} {v : Value} {xs : List Int} (h : IOwn w base v xs) : ∀ k, v.ownBlock = some k → base ≤ k ∧ k < w.heap.size := World.ownsRow.lt h
theorem IOwn.form {w : World} {base : Nat} {v : Value} {xs : List Int} (h : IOwn w base v xs) : ∃ q m, v = .slice q xs.length m ∧ xs.length ≤ m ∧ m ≤ maxLen ∧ (q = none → m = 0) := by
  rcases h.2 with ⟨hv, hn⟩ | ⟨g, cap, cur, hv, _, _, h1, h2, _⟩
  · exact ⟨none, 0, by rw [hv, hn], by omega, by unfold maxLen; omega, fun _ => rfl⟩
  · exact ⟨_, cap, hv, h1, h2, fun h => by cases h⟩
theorem iown_at {w : World} {base k : Nat} {v : Value} {xs : List Int} (hk : xs.length = k) (h : IOwn w base v xs) : w.ownsRow base 3 1 v k (Is xs) := by
  subst hk; exact h
theorem iown_push {w : World} {base k : Nat} {v : Value} {xs : List Int} {x : Int} (hk : xs.length = k) (h : w.ownsRow base 3 1 v (k + 1) (Is xs ++ [.int .i64 x])) : IOwn w base v (xs ++ [x]) := by
  subst hk
  unfold IOwn
  rw [List.length_append]
  simpa [Is] using h
theorem info_int : (Tryz.prog.info? 3).map (fun i => (i.zero, i.size, i.bytes)) = some (some (.int .i64 0), 1, 8) := by kernel_rfl
theorem one_one' (x : Int) : ∀ u ∈ [Value.int .i64 x], u.oneCell' = true := by
  intro u hu
  simp only [List.mem_cons, List.not_mem_nil, or_false] at hu
  subst hu; rfl
/-- The first k pieces' sectors and i of the next one's. -/
def secsI (l : Pcs) (k i : Nat) : List Int := secs (l.take k) ++ (List.range i).map fun j => (l.getD k (0, 0)).1 + (j : Nat)
theorem secsI_zero (l : Pcs) (k : Nat) : secsI l k 0 = secs (l.take k) := by simp [secsI]
theorem secsI_step (l : Pcs) (k i : Nat) : secsI l k (i + 1) = secsI l k i ++ [(l.getD k (0, 0)).1 + (i : Nat)] := by simp [secsI, List.range_succ]
theorem secsI_full {l : Pcs} {k : Nat} (hk : k < l.length) : secsI l k (l.getD k (0, 0)).2.toNat = secs (l.take (k + 1)) := by
  rw [take_snoc (d := (0, 0)) hk, secs_append, secs_one]; rfl
theorem secsI_len {l : Pcs} (hg : Good 4096 l) (hl : l.length ≤ 4096) {k i : Nat} (hi : i ≤ 4096) : (secsI l k i).length ≤ 16781312 := by
  unfold secsI
  have h1 := sumP_bound (wn_take hg k)
  have h2 := secs_len_sum (l := l.take k) (fun p hp => (wn_take hg k p hp).1)
  have h3 : (l.take k).length ≤ 4096 := by simp; omega
  simp only [List.length_append, List.length_map, List.length_range]
  omega
theorem wpIn {l : Pcs} (hg : Good 4096 l) {k : Nat} (hk : k < l.length) : 0 ≤ (l.getD k (0, 0)).1 ∧ 1 ≤ (l.getD k (0, 0)).2 ∧ (l.getD k (0, 0)).2 ≤ 4096 - (l.getD k (0, 0)).1 := hg.wn _ (getD_mem' hk)

set_option maxHeartbeats 2000000 in
theorem sectors_any (v : Value) (l : Pcs) (w : World) (hl : PIn w v l) :
    Calls Tryz.prog 144 #[v] w fun e w' => ∃ q c, e = .returned (.tuple #[.slice q (secsN l).length c, .int .i64 (errK 4096 l)]) ∧ IOwn w' w.heap.size (.slice q (secsN l).length c) (secsN l) ∧ Below w.heap.size w w' := by
  obtain ⟨q, c, rfl, hq, hlc, hcm, _⟩ := hl.lies
  have hck := check_any 4096 _ l w hl
  unfold maxLen at hcm
  obtain ⟨i0, hi, hz0, hz1, hz2⟩ := info_parts' info_int
  by_cases h2 : errK 4096 l = 0
  · have hz := errK_zero h2
    have HG : Hid (Good 4096 l) := hz.2.2
    have hlen := hz.2.1
    have HM : secsN l = secs l := by unfold secsN; rw [if_pos h2]
    rw [h2] at hck ⊢
    rw [HM]
    clear hl hz h2 HM
    go_enter Tryz.func144, Tryz.ntmps144
    go_wp2_with (go_at_call 138; refine hck.mono ?_; rintro e w1 ⟨rfl, hb1⟩)
    clear hck
    go_loopw [5, 16] (fun out i wr => ∃ k : Nat, k ≤ l.length ∧ i = .int .i64 k ∧ IOwn wr w.heap.size out (secs (l.take k)) ∧ Below w.heap.size w wr) (fun _ i _ => l.length - (intOf i).toNat)
    case atStart => exact ⟨0, by omega, rfl, iown_nil _ _, hb1⟩
    case round =>
      obtain ⟨k, hk, rfl, hout, hbel⟩ := hrel
      by_cases hkl : k < l.length
      · obtain ⟨b, o, rfl⟩ := hq.addr (by omega)
        obtain ⟨e1, e2⟩ := (hq.below hbel).at hkl
        have hwn := wpIn HG.out hkl
        have HS0 : Hid _ := secsI_zero l k
        have HST : Hid (∀ i, secsI l k (i + 1) = secsI l k i ++ [(l.getD k (0, 0)).1 + (i : Nat)]) := secsI_step l k
        have HSF : Hid _ := secsI_full hkl
        have HSL : Hid (∀ i, i ≤ 4096 → (secsI l k i).length ≤ 16781312) := fun i hi => secsI_len HG.out hlen hi
        have HOUT : Hid (IOwn wr w.heap.size u5 (secsI l k 0)) := by show IOwn _ _ _ _; rw [HS0.out]; exact hout
        have HBEL : Hid (Below w.heap.size w wr) := hbel
        have HOB : Hid (∀ x, u5.ownBlock = some x → w.heap.size ≤ x ∧ x < wr.heap.size) := hout.lt
        clear hq hout hbel HS0
        generalize hy : l.getD k (0, 0) = y at *
        obtain ⟨a, n⟩ := y
        simp only at e1 e2 hwn
        obtain ⟨m, rfl⟩ := Int.eq_ofNat_of_zero_le (show 0 ≤ n by omega)
        go_wp2
        have hal := below_alloc wr (.cells #[.int .i64 a, .int .i64 (m : Int)] 53)
        have hbx := (box2 (Below.refl (wr.heap.size + 1) (wr.alloc (.cells #[.int .i64 a, .int .i64 (m : Int)] 53)))).1
        have H0 : Hid (IOwn (wr.alloc (.cells #[.int .i64 a, .int .i64 (m : Int)] 53)) w.heap.size u5 (secsI l k 0) ∧ (wr.alloc (.cells #[.int .i64 a, .int .i64 (m : Int)] 53)).cell? ⟨wr.heap.size, 0, none⟩ = some (.int .i64 a) ∧ some wr.heap.size ≠ u5.ownBlock ∧ Below w.heap.size w (wr.alloc (.cells #[.int .i64 a, .int .i64 (m : Int)] 53))) :=
          ⟨HOUT.out.below hal, hbx, fun e => by have := (HOB.out _ e.symm).2; omega, HBEL.out.alloc HBEL.out.size _⟩
        clear hal hbx HOUT HOB HBEL
        generalize wr.heap.size = B at *
        go_loopw [5, 22] (fun out i wq => ∃ j : Nat, j ≤ m ∧ i = .int .i64 j ∧ IOwn wq w.heap.size out (secsI l k j) ∧ wq.cell? ⟨B, 0, none⟩ = some (.int .i64 a) ∧ some B ≠ out.ownBlock ∧ Below w.heap.size w wq) (fun _ i _ => m - (intOf i).toNat)
        case atStart => exact ⟨0, by omega, rfl, H0.out.1, H0.out.2.1, H0.out.2.2.1, H0.out.2.2.2⟩
        case round =>
          clear H0
          obtain ⟨j, hj, rfl, hout, hcell, hne, hbel⟩ := hrel
          have HOUT : Hid (IOwn wr w.heap.size u5 (secsI l k j)) := hout
          have HBEL : Hid (Below w.heap.size w wr) := hbel
          have HNE : Hid (some B ≠ u5.ownBlock) := hne
          have HCE : Hid (wr.cell? ⟨B, 0, none⟩ = some (.int .i64 a)) := hcell
          have hlj := HSL.out j (by omega)
          have HSJ : Hid _ := HST.out j
          clear hout hbel hne
          by_cases hjm : j < m
          · obtain ⟨L, hL⟩ : ∃ L, (secsI l k j).length = L := ⟨_, rfl⟩
            have HL : Hid ((secsI l k j).length = L) := hL
            rw [hL] at hlj
            clear hL
            go_wp2_with (at_builtin; refine wpList_append_lies _ rfl _ _ 107 rfl w.heap.size 3 i0 _ 1 8 Tryz.underlying107 hi hz0 hz1 hz2 rfl (by omega) u5 L (Is (secsI l k j)) rfl (iown_at HL.out (HOUT.out.below (below_alloc _ _))) ⟨wr.heap.size, 0, none⟩ 1 1 [.int .i64 (a + j)] rfl rfl (World.news_of_block (cs := #[.int .i64 (a + j)]) (heap_alloc_new _ _)) (one_one' _) (by omega) (by unfold maxLen; omega) (by omega) (by have := HBEL.out.size; simp; omega) (wr.heap.size + 1) (by simp) ?_)
            intro g1 cap1 w2 hown1 hgrow1 hat1 hlt1
            have R1 : Hid (IOwn w2 w.heap.size (.slice (some ⟨g1, 0, none⟩) (L + 1) cap1) (secsI l k (j + 1))) := by show IOwn _ _ _ _; rw [HSJ.out]; exact iown_push HL.out hown1
            have hBlt := World.block_lt_of_cell? _ _ HCE.out
            have R2 : Hid (w2.cell? ⟨B, 0, none⟩ = some (.int .i64 a)) := hgrow1.cell (((below_alloc wr _).cell hBlt).trans HCE.out) HNE.out
            have R3 : Hid (some B ≠ Value.ownBlock (.slice (some ⟨g1, 0, none⟩) (L + 1) cap1)) := far_of (H := wr.heap.size + 1) rfl (by omega) hat1 B hBlt HNE.out
            have R4 : Hid (Below w.heap.size w w2) := (HBEL.out.alloc HBEL.out.size _).grown hgrow1 (by have := HBEL.out.size; simp; omega) (fun x hx => (HOUT.out.lt x hx).1)
            clear hown1 hgrow1 hat1 hlt1 HOUT HBEL HNE HCE hBlt hcell
            go_wp2
            go_roundw
            case rel => exact ⟨j + 1, by omega, by go_num, R1.out, R2.out, R3.out, R4.out⟩
            case measure => simp [intOf]; omega
          · obtain rfl : j = m := by omega
            have R1 : Hid (IOwn wr w.heap.size u5 (secs (l.take (k + 1)))) := by
              have h := HOUT.out
              have e := HSF.out
              simp only [Int.toNat_natCast] at e
              rwa [e] at h
            clear HOUT HSF HST HSJ HSL HCE HNE hcell
            go_wp2
            go_roundw
            case rel => exact ⟨k + 1, by omega, by go_num, R1.out, HBEL.out⟩
            case measure => simp [intOf]; omega
      · obtain rfl : k = l.length := by omega
        rw [List.take_length] at hout
        have HOUT : Hid (IOwn wr w.heap.size u5 (secs l)) := hout
        clear hout hq
        go_wp2
        go_ret2
        obtain ⟨q', m', e, _⟩ := HOUT.out.form
        subst e
        exact ⟨q', m', rfl, HOUT.out, hbel⟩
  · have HM : secsN l = [] := by unfold secsN; rw [if_neg h2]
    have hne : (errK 4096 l != 0) = true := by simpa using h2
    rw [HM]
    generalize errK 4096 l = E at *
    clear hl hq h2
    go_enter Tryz.func144, Tryz.ntmps144
    go_wp2_with (go_at_call 138; refine hck.mono ?_; rintro e w1 ⟨rfl, hb1⟩)
    go_ret2
    exact ⟨none, 0, rfl, iown_nil _ _, hb1⟩
end Go.Proofs.YtglcpfnpbcnejaaGreatDoor.Rm
namespace Go.Proofs.YtglcpfnpbcnejaaGreatDoor.Rm
open Go.RowKit Go.WideShapes

theorem run_append_pcs (w : World) (ty : TypeId) (base : Nat) (v : Value) (xs l : Pcs) (q : Option Addr) (c : Nat) (hown : POwn w base v xs) (hin : PcsIn w q l) (hp : q = none → c = 0) (hlen : xs.length + l.length ≤ 1000000) (hbase : base ≤ w.heap.size) :
    ∃ v' w', (Builtin.append_ #[49, 49] ty #[v, .slice q l.length c]).run Tryz.prog w = .ok v' w' ∧ POwn w' base v' (xs ++ l) ∧ w.grownBy w' v.ownBlock := by
  obtain ⟨i0, hi, hz0, hz1, hz2⟩ := info_parts' info_piece
  cases q with
  | none =>
    have h0 : l = [] := by
      cases l with
      | nil => rfl
      | cons y ys => obtain ⟨b, o, e, _⟩ := hin (by simp); cases e
    subst h0
    obtain rfl := hp rfl
    exact ⟨v, w, run_append_owned_none (P := Tryz.prog) w base 49 ty 53 i0 2 Tryz.underlying49 hi v xs.length (cellsQ xs) hown, by simpa using hown, ⟨rfl, rfl, rfl, Nat.le_refl _, fun _ _ _ => rfl⟩⟩
  | some ad =>
    obtain ⟨v', w', h1, h2, h3, _⟩ := run_append_own (P := Tryz.prog) w base 49 ty 53 i0 _ 2 16 Tryz.underlying49 hi hz0 hz1 hz2 rfl (by decide) v xs.length (cellsQ xs) hown ad l.length c (cellsQ l) (cellsQ_len l) (pcs_news hin rfl) (cellsQ_oneCell l) (by unfold maxLen; omega) (by omega) hbase
    refine ⟨v', w', h1, ?_, h3⟩
    unfold POwn
    rw [cellsQ_app, List.length_append]
    exact h2
theorem wpList_append_pcs (w : World) {ops : Array Oper} {rest : List Oper} {o : Oper} {a : Act} {Q : Exit → Act → World → Prop} (hgd : o.guard = none) (s x : Operand)
    (ho : o.op = .call { callee := .builtin .append, args := #[s, x], argTypes := #[49, 49] }) (base : Nat) (v : Value) (xs l : Pcs) (q : Option Addr) (m c : Nat) (hs : a.eval s = v) (hx : a.eval x = .slice q m c) (hm : m = l.length)
    (hown : POwn w base v xs) (hin : PcsIn w q l) (hp : q = none → c = 0) (hlen : xs.length + l.length ≤ 1000000) (hbase : base ≤ w.heap.size)
    (h : ∀ v' w', POwn w' base v' (xs ++ l) → w.grownBy w' v.ownBlock → wpList Tryz.prog ops Q rest (a.put o.dst v') w') : wpList Tryz.prog ops Q (o :: rest) a w := by
  subst hm
  refine wpList_plain hgd fun K hK => ?_
  obtain ⟨v', w', hr, h2, h3⟩ := run_append_pcs w o.type base v xs l q c hown hin hp hlen hbase
  unfold Oper.wp execOp
  simp only [ho, resolve, invoke, builtin, Sem.run_bind, Sem.run_pure, Result.andThen_ok, List.map_toArray, List.map_cons, List.map_nil, hs, hx, hr]
  exact hK _ _ (h v' w' h2 h3)
theorem wf_got {first count : Int} {l : Pcs} {many : Nat} (h : (0 ≤ count ∧ count ≤ 4096) ∧ 0 ≤ first ∧ first ≤ count) : Wf (gotF first count l many).1 := by
  intro q hq
  have := gotF_bounds h q hq
  omega
theorem errT_zero {first count : Int} {l : Pcs} {many : Int} (h : errT first count l many = 0) : (0 ≤ many ∧ many ≤ 4096) ∧ errF first count l = 0 ∧ ¬ ((gotF first count l many.toNat).2 : Int) < many := by
  by_cases h0 : 0 ≤ many ∧ many ≤ 4096
  · by_cases h1 : errF first count l = 0
    · by_cases h2 : ((gotF first count l many.toNat).2 : Int) < many
      · rw [errT_few h0 h1 h2] at h; omega
      · exact ⟨h0, h1, h2⟩
    · rw [errT_bad h0 h1] at h; exact absurd h h1
  · rw [errT_arg h0] at h; omega
theorem wf_resT (first count : Int) (l : Pcs) (many : Int) : Wf (resT first count l many) := by
  by_cases h : errT first count l many = 0
  · rw [resT_ok h]; exact wf_got (errF_zero (errT_zero h).2.1).1
  · rw [resT_bad h]; exact wf_nil
theorem IOwn.at {w : World} {base : Nat} {q : Option Addr} {n c : Nat} {xs : List Int} (h : IOwn w base (.slice q n c) xs) {k : Nat} (hk : k < xs.length) : ∃ g, q = some ⟨g, 0, none⟩ ∧ w.cell? ⟨g, k, none⟩ = some (.int .i64 (xs.getD k 0)) := by
  rcases h.2 with ⟨_, h0⟩ | ⟨g, cap, cur, hv, _, hg, h1, _, _, _⟩
  · omega
  · simp only [Value.slice.injEq] at hv
    obtain ⟨rfl, rfl, rfl⟩ := hv
    refine ⟨g, rfl, ?_⟩
    rw [World.ownsRow.cellAt h k (by omega)]
    simp [Is, List.getD, List.getElem?_eq_getElem hk]
/-- A row of one's own that may be written into: its block. -/
theorem POwn.blk {w : World} {base : Nat} {q : Option Addr} {n c : Nat} {l : Pcs} (h : POwn w base (.slice q n c) l) (hp : 0 < l.length) : ∃ g cur, q = some ⟨g, 0, none⟩ ∧ base ≤ g ∧ w.heap[g]? = some (.cells cur 53 (0, 0)) ∧ l.length * 2 ≤ cur.size ∧ n ≤ c := by
  rcases h.2 with ⟨_, h0⟩ | ⟨g, cap, cur, hv, hb, hg, h1, _, h3, _⟩
  · omega
  · simp only [Value.slice.injEq] at hv
    obtain ⟨rfl, rfl, rfl⟩ := hv
    exact ⟨g, cur, rfl, hb, hg, by omega, h1⟩
end Go.Proofs.YtglcpfnpbcnejaaGreatDoor.Rm
namespace Go.Proofs.YtglcpfnpbcnejaaGreatDoor
open Go.RowKit Go.WideShapes Go.ChangeShapes Go.Deep Go.Joins Rm

def wf64 (n : Int) : Prop := -9223372036854775808 ≤ n ∧ n ≤ 9223372036854775807
/-- A []File: three cells each. -/
def FilesIn (w : World) (q : Option Addr) (l : List FileV) : Prop :=
  0 < l.length → ∃ b o, q = some ⟨b, o, none⟩ ∧ ∀ i, i < l.length → w.cell? ⟨b, o + i * 3, none⟩ = some (.string (l.getD i zeroF).name) ∧ w.cell? ⟨b, o + (i * 3 + 1), none⟩ = some (.int .i64 (l.getD i zeroF).size) ∧ ∃ v, w.cell? ⟨b, o + (i * 3 + 2), none⟩ = some v ∧ PIn w v (l.getD i zeroF).pcs
structure FIn (w : World) (v : Value) (l : List FileV) : Prop where
  lies : ∃ q c, v = .slice q l.length c ∧ FilesIn w q l ∧ l.length ≤ c ∧ c ≤ maxLen ∧ (q = none → c = 0)
  wf : ∀ f ∈ l, wf64 f.size
structure DirIn (w : World) (v : Value) (x : DirV) : Prop where
  lies : ∃ fv, v = .agg #[.int .i64 x.gen, fv] ∧ FIn w fv x.files
  wf : wf64 x.gen
/-- A file by value. -/
structure FileIn (w : World) (v : Value) (f : FileV) : Prop where
  lies : ∃ pv, v = .agg #[.string f.name, .int .i64 f.size, pv] ∧ PIn w pv f.pcs
  wf : wf64 f.size
theorem FilesIn.below {w w' : World} {q : Option Addr} {l : List FileV} (h : FilesIn w q l) (hb : Below w.heap.size w w') : FilesIn w' q l := by
  intro hp
  obtain ⟨b, o, rfl, hc⟩ := h hp
  refine ⟨b, o, rfl, fun i hi => ?_⟩
  obtain ⟨e0, e1, v, e2, hv⟩ := hc i hi
  exact ⟨(hb.cell (World.block_lt_of_cell? _ _ e0)).trans e0, (hb.cell (World.block_lt_of_cell? _ _ e1)).trans e1, v, (hb.cell (World.block_lt_of_cell? _ _ e2)).trans e2, hv.below hb⟩
theorem FIn.below {w w' : World} {v : Value} {l : List FileV} (h : FIn w v l) (hb : Below w.heap.size w w') : FIn w' v l := by
  obtain ⟨q, c, h1, h2, h3⟩ := h.lies
  exact ⟨⟨q, c, h1, h2.below hb, h3⟩, h.wf⟩
theorem DirIn.below {w w' : World} {v : Value} {x : DirV} (h : DirIn w v x) (hb : Below w.heap.size w w') : DirIn w' v x := by
  obtain ⟨fv, h1, h2⟩ := h.lies
  exact ⟨⟨fv, h1, h2.below hb⟩, h.wf⟩
theorem FileIn.below {w w' : World} {v : Value} {f : FileV} (h : FileIn w v f) (hb : Below w.heap.size w w') : FileIn w' v f := by
  obtain ⟨pv, h1, h2⟩ := h.lies
  exact ⟨⟨pv, h1, h2.below hb⟩, h.wf⟩
theorem FilesIn.addr {w : World} {q : Option Addr} {l : List FileV} (h : FilesIn w q l) (hw : 0 < l.length) : ∃ b o, q = some ⟨b, o, none⟩ := by
  obtain ⟨b, o, e, _⟩ := h hw
  exact ⟨b, o, e⟩
theorem FilesIn.at {w : World} {b o : Nat} {l : List FileV} (h : FilesIn w (some ⟨b, o, none⟩) l) {k : Nat} (hk : k < l.length) :
    w.cell? ⟨b, o + k * 3, none⟩ = some (.string (l.getD k zeroF).name) ∧ w.cell? ⟨b, o + k * 3 + 1, none⟩ = some (.int .i64 (l.getD k zeroF).size) ∧ ∃ v, w.cell? ⟨b, o + k * 3 + 2, none⟩ = some v ∧ PIn w v (l.getD k zeroF).pcs := by
  obtain ⟨b', o', e, hc⟩ := h (by omega)
  simp only [Option.some.injEq, Addr.mk.injEq, and_true] at e
  obtain ⟨rfl, rfl⟩ := e
  obtain ⟨h1, h2, v, h3, h4⟩ := hc k hk
  exact ⟨h1, by rw [Nat.add_assoc]; exact h2, v, by rw [Nat.add_assoc]; exact h3, h4⟩
theorem files_snoc {l : List FileV} {k : Nat} (h : k < l.length) : l.take (k + 1) = l.take k ++ [l.getD k zeroF] := take_snoc h
theorem allPcs_snoc {l : List FileV} {k : Nat} (h : k < l.length) : allPcs (l.take (k + 1)) = allPcs (l.take k) ++ (l.getD k zeroF).pcs := by
  rw [files_snoc h]; unfold allPcs; rw [List.flatMap_append]; simp
theorem sumC_snoc {l : Pcs} {k : Nat} (h : k < l.length) : sumC (l.take (k + 1)) = sumC (l.take k) + (l.getD k (0, 0)).2 := by
  rw [take_snoc (d := (0, 0)) h]; unfold sumC; simp
end Go.Proofs.YtglcpfnpbcnejaaGreatDoor
