/-
  Appending pieces, wherever they lie; what is answered has numbers that fit.
-/
import Derived.Test.YtiakfdhbbkpfhaaGreatDoorJ06
import Derived.Laws.OwnMore
namespace Go.Proofs.YtiakfdhbbkpfhaaGreatDoor.Rm
open Go.RowKit Go.WideShapes

def ListPost (l : Pcs) (e : Int) (w : World) (en : Ending) (w' : World) : Prop :=
  ∃ q c, en = .returned (.tuple #[.slice q l.length c, .int .i64 e]) ∧ POwn w' w.heap.size (.slice q l.length c) l ∧ Below w.heap.size w w'
theorem listPost_nil {l : Pcs} {e : Int} {w w' : World} {en : Ending} (hl : l = []) (he : en = .returned (.tuple #[.slice none 0 0, .int .i64 e])) (hb : Below w.heap.size w w') : ListPost l e w en w' := by
  subst hl
  exact ⟨none, 0, he, pown_nil _ _, hb⟩
theorem listPost_own {l : Pcs} {e : Int} {v : Value} {w w1 w' : World} {en : Ending} (he : en = .returned (.tuple #[v, .int .i64 e])) (ho : POwn w' w1.heap.size v l) (h1 : Below w.heap.size w w1) (hb : Below w1.heap.size w1 w') : ListPost l e w en w' := by
  obtain ⟨q, m, rfl, _⟩ := ho.form
  exact ⟨q, m, he, ho.mono h1.size, below_bt h1 hb⟩

set_option maxHeartbeats 1000000 in
theorem take_any (first count : Int) (v : Value) (l : Pcs) (many : Int) (w : World) (hl : PIn w v l) :
    Calls Tryz.prog 107 #[.int .i64 first, .int .i64 count, v, .int .i64 many] w (ListPost (resT first count l many) (errT first count l many) w) := by
  obtain ⟨q, c, rfl, _⟩ := hl.lies
  have hck := check_any count _ l w hl
  by_cases h1 : (0 ≤ count ∧ count ≤ 4096) ∧ 0 ≤ first ∧ first ≤ count
  · by_cases h0 : 0 ≤ many ∧ many ≤ 4096
    · by_cases h2 : errK count l = 0
      · have hz := errK_zero h2
        rw [h2] at hck
        have h3 : errF first count l = 0 := by rw [errF_ok h1, h2]
        obtain ⟨f, rfl⟩ := Int.eq_ofNat_of_zero_le h1.2.1
        obtain ⟨n, rfl⟩ := Int.eq_ofNat_of_zero_le h1.1.1
        obtain ⟨m, rfl⟩ := Int.eq_ofNat_of_zero_le h0.1
        have hle : ∀ w1, Below w.heap.size w w1 → Calls Tryz.prog 139 #[.int .i64 f, .int .i64 n, .slice q l.length c, .int .i64 m] w1 _ := fun w1 hb => least_any f n m _ l w1 (hl.below hb) hz.2.1 hz.2.2 (by omega) (by omega) (by omega)
        have hgot : gotF (f : Int) (n : Int) l ((m : Int)).toNat = runsK (freeB l) m f (n - f) := by
          unfold gotF
          rw [show ((f : Int)).toNat = f from by omega, show ((n : Int) - (f : Int)).toNat = n - f from by omega, show ((m : Int)).toNat = m from by omega]
        by_cases h5 : (runsK (freeB l) m f (n - f)).2 < m
        · have hE : errT (f : Int) (n : Int) l (m : Int) = 30 := errT_few h0 h3 (by rw [hgot]; omega)
          rw [resT_bad (by rw [hE]; decide), hE]
          generalize runsK (freeB l) m f (n - f) = r at *
          clear hl hz h2 h3 hgot
          go_enter Tryz.func107, Tryz.ntmps107
          go_wp2_with (first
            | (go_at_call 136; refine (mayBegin_any f n _).mono ?_; rintro e w ⟨rfl, rfl⟩; rw [decide_eq_true h1])
            | (go_at_call 137; refine (mayCount_any m _).mono ?_; rintro e w ⟨rfl, rfl⟩; rw [decide_eq_true h0])
            | (go_at_call 138; refine hck.mono ?_; rintro e w1 ⟨rfl, hb1⟩)
            | (go_at_call 139; refine (hle _ hb1).mono ?_; rintro e w2 ⟨v2, rfl, ho2, hb2⟩))
          go_ret2
          exact listPost_nil rfl rfl (below_bt hb1 hb2)
        · have hE : errT (f : Int) (n : Int) l (m : Int) = 0 := errT_ok h0 h3 (by rw [hgot]; omega)
          rw [resT_ok hE, hE, hgot]
          generalize runsK (freeB l) m f (n - f) = r at *
          clear hl hz h2 h3 hgot
          go_enter Tryz.func107, Tryz.ntmps107
          go_wp2_with (first
            | (go_at_call 136; refine (mayBegin_any f n _).mono ?_; rintro e w ⟨rfl, rfl⟩; rw [decide_eq_true h1])
            | (go_at_call 137; refine (mayCount_any m _).mono ?_; rintro e w ⟨rfl, rfl⟩; rw [decide_eq_true h0])
            | (go_at_call 138; refine hck.mono ?_; rintro e w1 ⟨rfl, hb1⟩)
            | (go_at_call 139; refine (hle _ hb1).mono ?_; rintro e w2 ⟨v2, rfl, ho2, hb2⟩))
          go_ret2
          exact listPost_own rfl ho2 hb1 hb2
      · have h3 : errT first count l many = errK count l := by rw [errT_bad h0 (by rw [errF_ok h1]; exact h2), errF_ok h1]
        have hne : (errK count l != 0) = true := by simpa using h2
        rw [resT_bad (by rw [h3]; exact h2), h3]
        generalize errK count l = E at *
        clear hl h2 h3
        go_enter Tryz.func107, Tryz.ntmps107
        go_wp2_with (first
          | (go_at_call 136; refine (mayBegin_any first count _).mono ?_; rintro e w ⟨rfl, rfl⟩; rw [decide_eq_true h1])
          | (go_at_call 137; refine (mayCount_any many _).mono ?_; rintro e w ⟨rfl, rfl⟩; rw [decide_eq_true h0])
          | (go_at_call 138; refine hck.mono ?_; rintro e w1 ⟨rfl, hb1⟩))
        go_ret2
        exact listPost_nil rfl rfl hb1
    · have h3 : errT first count l many = 2 := errT_arg h0
      rw [resT_bad (by rw [h3]; decide), h3]
      go_enter Tryz.func107, Tryz.ntmps107
      go_wp2_with (first
        | (go_at_call 136; refine (mayBegin_any first count _).mono ?_; rintro e w ⟨rfl, rfl⟩; rw [decide_eq_true h1])
        | (go_at_call 137; refine (mayCount_any many _).mono ?_; rintro e w ⟨rfl, rfl⟩; rw [decide_eq_false h0]))
      go_ret2
      exact listPost_nil rfl rfl (Below.refl _ _)
  · have h3 : errT first count l many = 2 := by
      by_cases h0 : 0 ≤ many ∧ many ≤ 4096
      · rw [errT_bad h0 (by rw [errF_arg h1]; decide), errF_arg h1]
      · exact errT_arg h0
    rw [resT_bad (by rw [h3]; decide), h3]
    go_enter Tryz.func107, Tryz.ntmps107
    go_wp2_with (go_at_call 136; refine (mayBegin_any first count _).mono ?_; rintro e w ⟨rfl, rfl⟩; rw [decide_eq_false h1])
    go_ret2
    exact listPost_nil rfl rfl (Below.refl _ _)
end Go.Proofs.YtiakfdhbbkpfhaaGreatDoor.Rm
namespace Go.Proofs.YtiakfdhbbkpfhaaGreatDoor.Rm
open Go.RowKit Go.WideShapes

theorem wn_take {l : Pcs} (h : Good 4096 l) (k : Nat) : ∀ p ∈ l.take k, 0 ≤ p.2 ∧ p.2 ≤ 4096 := by
  intro p hp
  have := h.wn p (List.mem_of_mem_take hp)
  unfold Wn at this
  omega
theorem sum_step {l : Pcs} {k : Nat} (hk : k < l.length) : sumP (l.take (k + 1)) = sumP (l.take k) + (l.getD k (0, 0)).2 := by rw [take_snoc (d := (0, 0)) hk, sumP_snoc]
/-! ### Join -/
theorem fold_step {s : Pcs} {k : Nat} (hk : k < s.length) : foldW (s.take (k + 1)) = withN (foldW (s.take k)) (s.getD k (0, 0)) := by rw [take_snoc (d := (0, 0)) hk, foldW_snoc]
theorem fold_bounds {s : Pcs} (hg : Good 4096 s) (hu : Up s) (k : Nat) : (∀ q ∈ foldW (s.take k), 0 ≤ q.1 ∧ 0 ≤ q.2 ∧ q.1 + q.2 ≤ 8192) ∧ (foldW (s.take k)).length ≤ s.length := by
  have hc := hg.chain hu
  have hck : Chain (s.take k) := by
    unfold Chain at *
    rw [← List.take_append_drop k s] at hc
    exact (List.pairwise_append.1 hc).1
  have hf := foldW_of hck (fun p hp => by have := hg.wn p (List.mem_of_mem_take hp); exact ⟨this.1, this.2.1⟩)
  refine ⟨fun q hq => ?_, Nat.le_trans hf.len (by simp; omega)⟩
  have h1 := hf.ends q hq
  have h2 := hf.runs.2 q hq
  have h3 : endOf (s.take k) ≤ 4096 := by
    rcases nil_or_snoc (s.take k) with h0 | ⟨t, r, h0⟩
    · rw [h0]; simp [endOf]
    · rw [h0, endOf_snoc]
      have hm : r ∈ s := List.mem_of_mem_take (i := k) (by rw [h0]; simp)
      have := hg.wn r hm
      unfold Wn at this
      omega
  omega
end Go.Proofs.YtiakfdhbbkpfhaaGreatDoor.Rm
namespace Go.Proofs.YtiakfdhbbkpfhaaGreatDoor.Rm
open Go.RowKit Go.WideShapes

def Is (xs : List Int) : List Value := xs.map (Value.int .i64)
theorem Is_len (xs : List Int) : (Is xs).length = xs.length := by simp [Is]
def IOwn (w : World) (base : Nat) (v : Value) (xs : List Int) : Prop := w.ownsRow base 3 1 v xs.length (Is xs)
theorem iown_nil (w : World) (base : Nat) : IOwn w base (.slice none 0 0) [] := World.ownsRow_nil _ _ _ _
theorem IOwn.mono {w : World} {base base' : Nat} {v : Value} {xs : List Int} (h : IOwn w base v xs) (hb : base' ≤ base) : IOwn w base' v xs := by
  refine ⟨h.1, ?_⟩
  rcases h.2 with h' | ⟨g, cap, cur, h1, h2, h3⟩
  · exact .inl h'
  · exact .inr ⟨g, cap, cur, h1, Nat.le_trans hb h2, h3⟩
theorem IOwn.below {w w' : World} {base : Nat} {v : Value} {xs : List Int} (h : IOwn w base v xs) (hb : Below w.heap.size w w') : IOwn w' base v xs := by
  refine ⟨h.1, ?_⟩
  rcases h.2 with h' | ⟨g, cap, cur, h1, h2, h3, h4⟩
  · exact .inl h'
  · exact .inr ⟨g, cap, cur, h1, h2, (hb.block g (lt_heap h3)).trans h3, h4⟩
theorem IOwn.lt {w : World} {base : Nat} {v : Value} {xs : List Int} (h : IOwn w base v xs) : ∀ k, v.ownBlock = some k → base ≤ k ∧ k < w.heap.size := World.ownsRow.lt h
theorem IOwn.form {w : World} {base : Nat} {v : Value} {xs : List Int} (h : IOwn w base v xs) : ∃ q m, v = .slice q xs.length m ∧ xs.length ≤ m ∧ m ≤ maxLen ∧ (q = none → m = 0) := by
  rcases h.2 with ⟨hv, hn⟩ | ⟨g, cap, cur, hv, _, _, h1, h2, _⟩
  · exact ⟨none, 0, by rw [hv, hn], by omega, by unfold maxLen; omega, fun _ => rfl⟩
  · exact ⟨_, cap, hv, h1, h2, fun h => by cases h⟩
theorem iown_at {w : World} {base k : Nat} {v : Value} {xs : List Int} (hk : xs.length = k) (h : IOwn w base v xs) : w.ownsRow base 3 1 v k (Is xs) := by
  subst hk; exact h
theorem iown_push {w : World} {base k : Nat} {v : Value} {xs : List Int} {x : Int} (hk : xs.length = k) (h : w.ownsRow base 3 1 v (k + 1) (Is xs ++ [.int .i64 x])) : IOwn w base v (xs ++ [x]) := by
  subst hk
  unfold IOwn
  rw [List.length_append]
  simpa [Is] using h
theorem info_int : (Tryz.prog.info? 3).map (fun i => (i.zero, i.size, i.bytes)) = some (some (.int .i64 0), 1, 8) := by kernel_rfl
theorem one_one' (x : Int) : ∀ u ∈ [Value.int .i64 x], u.oneCell' = true := by
  intro u hu
  simp only [List.mem_cons, List.not_mem_nil, or_false] at hu
  subst hu; rfl
/-- The first k pieces' sectors and i of the next one's. -/
def secsI (l : Pcs) (k i : Nat) : List Int := secs (l.take k) ++ (List.range i).map fun j => (l.getD k (0, 0)).1 + (j : Nat)
theorem secsI_zero (l : Pcs) (k : Nat) : secsI l k 0 = secs (l.take k) := by simp [secsI]
theorem secsI_step (l : Pcs) (k i : Nat) : secsI l k (i + 1) = secsI l k i ++ [(l.getD k (0, 0)).1 + (i : Nat)] := by simp [secsI, List.range_succ]
theorem secsI_full {l : Pcs} {k : Nat} (hk : k < l.length) : secsI l k (l.getD k (0, 0)).2.toNat = secs (l.take (k + 1)) := by
  rw [take_snoc (d := (0, 0)) hk, secs_append, secs_one]; rfl
theorem secsI_len {l : Pcs} (hg : Good 4096 l) (hl : l.length ≤ 4096) {k i : Nat} (hi : i ≤ 4096) : (secsI l k i).length ≤ 16781312 := by
  unfold secsI
  have h1 := sumP_bound (wn_take hg k)
  have h2 := secs_len_sum (l := l.take k) (fun p hp => (wn_take hg k p hp).1)
  have h3 : (l.take k).length ≤ 4096 := by simp; omega
  simp only [List.length_append, List.length_map, List.length_range]
  omega
theorem wpIn {l : Pcs} (hg : Good 4096 l) {k : Nat} (hk : k < l.length) : 0 ≤ (l.getD k (0, 0)).1 ∧ 1 ≤ (l.getD k (0, 0)).2 ∧ (l.getD k (0, 0)).2 ≤ 4096 - (l.getD k (0, 0)).1 := hg.wn _ (getD_mem' hk)

set_option maxHeartbeats 2000000 in
theorem sectors_any (v : Value) (l : Pcs) (w : World) (hl : PIn w v l) :
    Calls Tryz.prog 144 #[v] w fun e w' => ∃ q c, e = .returned (.tuple #[.slice q (secsN l).length c, .int .i64 (errK 4096 l)]) ∧ IOwn w' w.heap.size (.slice q (secsN l).length c) (secsN l) ∧ Below w.heap.size w w' := by
  obtain ⟨q, c, rfl, hq, hlc, hcm, _⟩ := hl.lies
  have hck := check_any 4096 _ l w hl
  unfold maxLen at hcm
  obtain ⟨i0, hi, hz0, hz1, hz2⟩ := info_parts' info_int
  by_cases h2 : errK 4096 l = 0
  · have hz := errK_zero h2
    have HG : Hid (Good 4096 l) := hz.2.2
    have hlen := hz.2.1
    have HM : secsN l = secs l := by unfold secsN; rw [if_pos h2]
    rw [h2] at hck ⊢
    rw [HM]
    clear hl hz h2 HM
    go_enter Tryz.func144, Tryz.ntmps144
    go_wp2_with (go_at_call 138; refine hck.mono ?_; rintro e w1 ⟨rfl, hb1⟩)
    clear hck
    go_loopw [5, 16] (fun out i wr => ∃ k : Nat, k ≤ l.length ∧ i = .int .i64 k ∧ IOwn wr w.heap.size out (secs (l.take k)) ∧ Below w.heap.size w wr) (fun _ i _ => l.length - (intOf i).toNat)
    case atStart => exact ⟨0, by omega, rfl, iown_nil _ _, hb1⟩
    case round =>
      obtain ⟨k, hk, rfl, hout, hbel⟩ := hrel
      by_cases hkl : k < l.length
      · obtain ⟨b, o, rfl⟩ := hq.addr (by omega)
        obtain ⟨e1, e2⟩ := (hq.below hbel).at hkl
        have hwn := wpIn HG.out hkl
        have HS0 : Hid _ := secsI_zero l k
        have HST : Hid (∀ i, secsI l k (i + 1) = secsI l k i ++ [(l.getD k (0, 0)).1 + (i : Nat)]) := secsI_step l k
        have HSF : Hid _ := secsI_full hkl
        have HSL : Hid (∀ i, i ≤ 4096 → (secsI l k i).length ≤ 16781312) := fun i hi => secsI_len HG.out hlen hi
        have HOUT : Hid (IOwn wr w.heap.size u5 (secsI l k 0)) := by show IOwn _ _ _ _; rw [HS0.out]; exact hout
        have HBEL : Hid (Below w.heap.size w wr) := hbel
        have HOB : Hid (∀ x, u5.ownBlock = some x → w.heap.size ≤ x ∧ x < wr.heap.size) := hout.lt
        clear hq hout hbel HS0
        generalize hy : l.getD k (0, 0) = y at *
        obtain ⟨a, n⟩ := y
        simp only at e1 e2 hwn
        obtain ⟨m, rfl⟩ := Int.eq_ofNat_of_zero_le (show 0 ≤ n by omega)
        go_wp2
        have hal := below_alloc wr (.cells #[.int .i64 a, .int .i64 (m : Int)] 53)
        have hbx := (box2 (Below.refl (wr.heap.size + 1) (wr.alloc (.cells #[.int .i64 a, .int .i64 (m : Int)] 53)))).1
        have H0 : Hid (IOwn (wr.alloc (.cells #[.int .i64 a, .int .i64 (m : Int)] 53)) w.heap.size u5 (secsI l k 0) ∧ (wr.alloc (.cells #[.int .i64 a, .int .i64 (m : Int)] 53)).cell? ⟨wr.heap.size, 0, none⟩ = some (.int .i64 a) ∧ some wr.heap.size ≠ u5.ownBlock ∧ Below w.heap.size w (wr.alloc (.cells #[.int .i64 a, .int .i64 (m : Int)] 53))) :=
          ⟨HOUT.out.below hal, hbx, fun e => by have := (HOB.out _ e.symm).2; omega, HBEL.out.alloc HBEL.out.size _⟩
        clear hal hbx HOUT HOB HBEL
        generalize wr.heap.size = B at *
        go_loopw [5, 22] (fun out i wq => ∃ j : Nat, j ≤ m ∧ i = .int .i64 j ∧ IOwn wq w.heap.size out (secsI l k j) ∧ wq.cell? ⟨B, 0, none⟩ = some (.int .i64 a) ∧ some B ≠ out.ownBlock ∧ Below w.heap.size w wq) (fun _ i _ => m - (intOf i).toNat)
        case atStart => exact ⟨0, by omega, rfl, H0.out.1, H0.out.2.1, H0.out.2.2.1, H0.out.2.2.2⟩
        case round =>
          clear H0
          obtain ⟨j, hj, rfl, hout, hcell, hne, hbel⟩ := hrel
          have HOUT : Hid (IOwn wr w.heap.size u5 (secsI l k j)) := hout
          have HBEL : Hid (Below w.heap.size w wr) := hbel
          have HNE : Hid (some B ≠ u5.ownBlock) := hne
          have HCE : Hid (wr.cell? ⟨B, 0, none⟩ = some (.int .i64 a)) := hcell
          have hlj := HSL.out j (by omega)
          have HSJ : Hid _ := HST.out j
          clear hout hbel hne
          by_cases hjm : j < m
          · obtain ⟨L, hL⟩ : ∃ L, (secsI l k j).length = L := ⟨_, rfl⟩
            have HL : Hid ((secsI l k j).length = L) := hL
            rw [hL] at hlj
            clear hL
            go_wp2_with (at_builtin; refine wpList_append_lies _ rfl _ _ 107 rfl w.heap.size 3 i0 _ 1 8 Tryz.underlying107 hi hz0 hz1 hz2 rfl (by omega) u5 L (Is (secsI l k j)) rfl (iown_at HL.out (HOUT.out.below (below_alloc _ _))) ⟨wr.heap.size, 0, none⟩ 1 1 [.int .i64 (a + j)] rfl rfl (World.news_of_block (cs := #[.int .i64 (a + j)]) (heap_alloc_new _ _)) (one_one' _) (by omega) (by unfold maxLen; omega) (by omega) (by have := HBEL.out.size; simp; omega) (wr.heap.size + 1) (by simp) ?_)
            intro g1 cap1 w2 hown1 hgrow1 hat1 hlt1
            have R1 : Hid (IOwn w2 w.heap.size (.slice (some ⟨g1, 0, none⟩) (L + 1) cap1) (secsI l k (j + 1))) := by show IOwn _ _ _ _; rw [HSJ.out]; exact iown_push HL.out hown1
            have hBlt := World.block_lt_of_cell? _ _ HCE.out
            have R2 : Hid (w2.cell? ⟨B, 0, none⟩ = some (.int .i64 a)) := hgrow1.cell (((below_alloc wr _).cell hBlt).trans HCE.out) HNE.out
            have R3 : Hid (some B ≠ Value.ownBlock (.slice (some ⟨g1, 0, none⟩) (L + 1) cap1)) := far_of (H := wr.heap.size + 1) rfl (by omega) hat1 B hBlt HNE.out
            have R4 : Hid (Below w.heap.size w w2) := (HBEL.out.alloc HBEL.out.size _).grown hgrow1 (by have := HBEL.out.size; simp; omega) (fun x hx => (HOUT.out.lt x hx).1)
            clear hown1 hgrow1 hat1 hlt1 HOUT HBEL HNE HCE hBlt hcell
            go_wp2
            go_roundw
            case rel => exact ⟨j + 1, by omega, by go_num, R1.out, R2.out, R3.out, R4.out⟩
            case measure => simp [intOf]; omega
          · obtain rfl : j = m := by omega
            have R1 : Hid (IOwn wr w.heap.size u5 (secs (l.take (k + 1)))) := by
              have h := HOUT.out
              have e := HSF.out
              simp only [Int.toNat_natCast] at e
              rwa [e] at h
            clear HOUT HSF HST HSJ HSL HCE HNE hcell
            go_wp2
            go_roundw
            case rel => exact ⟨k + 1, by omega, by go_num, R1.out, HBEL.out⟩
            case measure => simp [intOf]; omega
      · obtain rfl : k = l.length := by omega
        rw [List.take_length] at hout
        have HOUT : Hid (IOwn wr w.heap.size u5 (secs l)) := hout
        clear hout hq
        go_wp2
        go_ret2
        obtain ⟨q', m', e, _⟩ := HOUT.out.form
        subst e
        exact ⟨q', m', rfl, HOUT.out, hbel⟩
  · have HM : secsN l = [] := by unfold secsN; rw [if_neg h2]
    have hne : (errK 4096 l != 0) = true := by simpa using h2
    rw [HM]
    generalize errK 4096 l = E at *
    clear hl hq h2
    go_enter Tryz.func144, Tryz.ntmps144
    go_wp2_with (go_at_call 138; refine hck.mono ?_; rintro e w1 ⟨rfl, hb1⟩)
    go_ret2
    exact ⟨none, 0, rfl, iown_nil _ _, hb1⟩
end Go.Proofs.YtiakfdhbbkpfhaaGreatDoor.Rm
namespace Go.Proofs.YtiakfdhbbkpfhaaGreatDoor.Rm
open Go.RowKit Go.WideShapes

theorem run_append_pcs (w : World) (ty : TypeId) (base : Nat) (v : Value) (xs l : Pcs) (q : Option Addr) (c : Nat) (hown : POwn w base v xs) (hin : PcsIn w q l) (hp : q = none → c = 0) (hlen : xs.length + l.length ≤ 1000000) (hbase : base ≤ w.heap.size) :
    ∃ v' w', (Builtin.append_ #[49, 49] ty #[v, .slice q l.length c]).run Tryz.prog w = .ok v' w' ∧ POwn w' base v' (xs ++ l) ∧ w.grownBy w' v.ownBlock := by
  obtain ⟨i0, hi, hz0, hz1, hz2⟩ := info_parts' info_piece
  cases q with
  | none =>
    have h0 : l = [] := by
      cases l with
      | nil => rfl
      | cons y ys => obtain ⟨b, o, e, _⟩ := hin (by simp); cases e
    subst h0
    obtain rfl := hp rfl
    exact ⟨v, w, run_append_owned_none (P := Tryz.prog) w base 49 ty 53 i0 2 Tryz.underlying49 hi v xs.length (cellsQ xs) hown, by simpa using hown, ⟨rfl, rfl, rfl, Nat.le_refl _, fun _ _ _ => rfl⟩⟩
  | some ad =>
    obtain ⟨v', w', h1, h2, h3, _⟩ := run_append_own (P := Tryz.prog) w base 49 ty 53 i0 _ 2 16 Tryz.underlying49 hi hz0 hz1 hz2 rfl (by decide) v xs.length (cellsQ xs) hown ad l.length c (cellsQ l) (cellsQ_len l) (pcs_news hin rfl) (cellsQ_oneCell l) (by unfold maxLen; omega) (by omega) hbase
    refine ⟨v', w', h1, ?_, h3⟩
    unfold POwn
    rw [cellsQ_app, List.length_append]
    exact h2
theorem wpList_append_pcs (w : World) {ops : Array Oper} {rest : List Oper} {o : Oper} {a : Act} {Q : Exit → Act → World → Prop} (hgd : o.guard = none) (s x : Operand)
    (ho : o.op = .call { callee := .builtin .append, args := #[s, x], argTypes := #[49, 49] }) (base : Nat) (v : Value) (xs l : Pcs) (q : Option Addr) (m c : Nat) (hs : a.eval s = v) (hx : a.eval x = .slice q m c) (hm : m = l.length)
    (hown : POwn w base v xs) (hin : PcsIn w q l) (hp : q = none → c = 0) (hlen : xs.length + l.length ≤ 1000000) (hbase : base ≤ w.heap.size)
    (h : ∀ v' w', POwn w' base v' (xs ++ l) → w.grownBy w' v.ownBlock → wpList Tryz.prog ops Q rest (a.put o.dst v') w') : wpList Tryz.prog ops Q (o :: rest) a w := by
  subst hm
  refine wpList_plain hgd fun K hK => ?_
  obtain ⟨v', w', hr, h2, h3⟩ := run_append_pcs w o.type base v xs l q c hown hin hp hlen hbase
  unfold Oper.wp execOp
  simp only [ho, resolve, invoke, builtin, Sem.run_bind, Sem.run_pure, Result.andThen_ok, List.map_toArray, List.map_cons, List.map_nil, hs, hx, hr]
  exact hK _ _ (h v' w' h2 h3)
theorem wf_got {first count : Int} {l : Pcs} {many : Nat} (h : (0 ≤ count ∧ count ≤ 4096) ∧ 0 ≤ first ∧ first ≤ count) : Wf (gotF first count l many).1 := by
  intro q hq
  have := gotF_bounds h q hq
  omega
theorem wf_resF (first count : Int) (l : Pcs) : Wf (resF first count l) := by
  by_cases h : errF first count l = 0
  · rw [resF_ok h]; exact wf_got (errF_zero h).1
  · rw [resF_bad h]; exact wf_nil
theorem errT_zero {first count : Int} {l : Pcs} {many : Int} (h : errT first count l many = 0) : (0 ≤ many ∧ many ≤ 4096) ∧ errF first count l = 0 ∧ ¬ ((gotF first count l many.toNat).2 : Int) < many := by
  by_cases h0 : 0 ≤ many ∧ many ≤ 4096
  · by_cases h1 : errF first count l = 0
    · by_cases h2 : ((gotF first count l many.toNat).2 : Int) < many
      · rw [errT_few h0 h1 h2] at h; omega
      · exact ⟨h0, h1, h2⟩
    · rw [errT_bad h0 h1] at h; exact absurd h h1
  · rw [errT_arg h0] at h; omega
theorem wf_resT (first count : Int) (l : Pcs) (many : Int) : Wf (resT first count l many) := by
  by_cases h : errT first count l many = 0
  · rw [resT_ok h]; exact wf_got (errF_zero (errT_zero h).2.1).1
  · rw [resT_bad h]; exact wf_nil
theorem join_wn (l : Pcs) : ∀ q ∈ joinN l, Wn 4096 q := by
  suffices ∀ n : Nat, n ≤ 4096 → ∀ q ∈ joinK n l, Wn 4096 q from this 4096 (Nat.le_refl _)
  intro n hn q hq
  have h1 := joinK_runs n l
  have h2 := (runsK_of (cov l) n 0 n).ends q hq
  have h3 := h1.2 q hq
  unfold Wn
  omega
theorem join_good (l : Pcs) : Good 4096 (joinN l) := (joinN_runs l).chain.good (join_wn l)
theorem wf_resJ (l : Pcs) : Wf (resJ l) := by
  unfold resJ
  split
  · exact (join_good l).wf (by omega)
  · exact wf_nil
theorem IOwn.at {w : World} {base : Nat} {q : Option Addr} {n c : Nat} {xs : List Int} (h : IOwn w base (.slice q n c) xs) {k : Nat} (hk : k < xs.length) : ∃ g, q = some ⟨g, 0, none⟩ ∧ w.cell? ⟨g, k, none⟩ = some (.int .i64 (xs.getD k 0)) := by
  rcases h.2 with ⟨_, h0⟩ | ⟨g, cap, cur, hv, _, hg, h1, _, _, _⟩
  · omega
  · simp only [Value.slice.injEq] at hv
    obtain ⟨rfl, rfl, rfl⟩ := hv
    refine ⟨g, rfl, ?_⟩
    rw [World.ownsRow.cellAt h k (by omega)]
    simp [Is, List.getD, List.getElem?_eq_getElem hk]
/-- A row of one's own that may be written into: its block. -/
theorem POwn.blk {w : World} {base : Nat} {q : Option Addr} {n c : Nat} {l : Pcs} (h : POwn w base (.slice q n c) l) (hp : 0 < l.length) : ∃ g cur, q = some ⟨g, 0, none⟩ ∧ base ≤ g ∧ w.heap[g]? = some (.cells cur 53 (0, 0)) ∧ l.length * 2 ≤ cur.size ∧ n ≤ c := by
  rcases h.2 with ⟨_, h0⟩ | ⟨g, cap, cur, hv, hb, hg, h1, _, h3, _⟩
  · omega
  · simp only [Value.slice.injEq] at hv
    obtain ⟨rfl, rfl, rfl⟩ := hv
    exact ⟨g, cur, rfl, hb, hg, by omega, h1⟩
theorem cell_some {w : World} {g i : Nat} {cur : Array Value} {t : TypeId} (h : w.heap[g]? = some (.cells cur t (0, 0))) (hi : i < cur.size) : ∃ x, w.cell? ⟨g, i, none⟩ = some x := by
  rw [cell_of_row w g i _ _ _ h]
  exact ⟨cur[i], Array.getElem?_eq_getElem hi⟩
end Go.Proofs.YtiakfdhbbkpfhaaGreatDoor.Rm
