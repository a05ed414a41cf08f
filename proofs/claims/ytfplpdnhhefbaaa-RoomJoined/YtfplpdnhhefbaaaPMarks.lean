/-
  Contract of the helper 'marks' of the layer's statements: how often each sector is in pieces.
-/
import Derived.Test.YtfplpdnhhefbaaaPAppend
namespace Go.Proofs.Ytfplpdnhhefbaaa
open Go.RowKit Go.WideShapes

/-! ### Counting, with no program -/
def cntL (xs : List Int) (n : Int) : Int := (xs.count n : Nat)
theorem cntL_snoc (xs : List Int) (x n : Int) : cntL (xs ++ [x]) n = cntL xs n + if x = n then 1 else 0 := by
  unfold cntL
  rw [List.count_append, List.count_singleton]
  by_cases h : x = n
  · simp [h]
  · simp [h]
theorem cntL_nil (n : Int) : cntL [] n = 0 := rfl
theorem cntL_bound (xs : List Int) (n : Int) : 0 ≤ cntL xs n ∧ cntL xs n ≤ xs.length := by
  unfold cntL
  have := List.count_le_length (a := n) (l := xs)
  omega
theorem up_count : ∀ {xs : List Int}, xs.Pairwise (· < ·) → ∀ n, cntL xs n = if n ∈ xs then 1 else 0
  | [], _, n => by simp [cntL]
  | x :: xs, h, n => by
    have h' := List.pairwise_cons.1 h
    have ih := up_count h'.2 n
    unfold cntL at *
    rw [List.count_cons]
    by_cases e : x = n
    · subst e
      have hn : x ∉ xs := fun hm => by have := h'.1 x hm; omega
      rw [if_neg hn] at ih
      simp only [beq_self_eq_true, if_true, List.mem_cons, true_or]
      omega
    · have e1 : (x == n) = false := by simpa using e
      rw [e1]
      have e2 : (n ∈ x :: xs) ↔ n ∈ xs := by simp [Ne.symm e]
      simp only [Bool.false_eq_true, if_false, Nat.add_zero, e2]
      exact ih
theorem good_count {count : Int} : ∀ {l : Pcs}, Good count l → ∀ n, cntL (secs l) n = if cov l n = true then 1 else 0
  | [], _, n => by simp [cntL, secs, cov]
  | p :: l, h, n => by
    have h' := List.pairwise_cons.1 h.apart
    have hg : Good count l := ⟨fun q hq => h.wn q (by simp [hq]), h'.2⟩
    have ih := good_count hg n
    have e1 : cntL (secs (p :: l)) n = cntL (secs [p]) n + cntL (secs l) n := by
      rw [secs_cons]
      unfold cntL
      rw [List.count_append]
      omega
    rw [e1, up_count (run_up p), ih]
    have e2 : cov (p :: l) n = (cov [p] n || cov l n) := by
      have := cov_append [p] l n
      simpa using this
    rw [e2]
    by_cases hp : n ∈ secs [p]
    · have hc : cov [p] n = true := mem_secs.1 hp
      have hl : cov l n = false := by
        refine cov_false.2 fun q hq hn => ?_
        have h1 := mem_run.1 hp
        have h2 := h'.1 q hq
        unfold Apart at h2
        omega
      rw [if_pos hp, hc, hl]
      simp
    · have hc : cov [p] n = false := by
        rw [← Bool.not_eq_true]; exact fun e => hp (mem_secs.2 e)
      rw [if_neg hp, hc]
      simp
/-! ### A row of numbers, one a sector -/
def iRow (F : Int → Int) (n : Nat) : List Value := (List.range n).map fun i => .int .i64 (F (i : Nat))
theorem iRow_len (F : Int → Int) (n : Nat) : (iRow F n).length = n := by simp [iRow]
theorem iRow_at {F : Int → Int} {n i : Nat} (h : i < n) : (iRow F n)[i]? = some (.int .i64 (F (i : Nat))) := by simp [iRow, h]
theorem iRow_set {F G : Int → Int} {n k : Nat} (hk : k < n) (h : ∀ i : Nat, i ≠ k → G i = F i) : (iRow F n).set k (.int .i64 (G (k : Nat))) = iRow G n := by
  apply List.ext_getElem?
  intro i
  rw [List.getElem?_set]
  by_cases e : k = i
  · subst e
    rw [if_pos rfl, iRow_at hk, if_pos (by rw [iRow_len]; exact hk)]
  · rw [if_neg e]
    rcases Nat.lt_or_ge i n with h' | h'
    · rw [iRow_at h', iRow_at h', h i (fun e' => e e'.symm)]
    · rw [List.getElem?_eq_none (by rw [iRow_len]; exact h'), List.getElem?_eq_none (by rw [iRow_len]; exact h')]
theorem iRow_made (n : Nat) : (madeCells #[Value.int .i64 0] n).toList = iRow (fun _ => 0) n := by
  rw [toList_madeCells_one]
  apply List.ext_getElem?
  intro i
  rcases Nat.lt_or_ge i n with h' | h'
  · rw [iRow_at h']; simp [h']
  · rw [List.getElem?_eq_none (by simpa using h'), List.getElem?_eq_none (by rw [iRow_len]; exact h')]
def IAt (w : World) (g : Nat) (F : Int → Int) (n : Nat) : Prop := w.heap[g]? = some (.cells (iRow F n).toArray 3 (0, 0))
theorem IAt.cell {w : World} {g : Nat} {F : Int → Int} {n i : Nat} (h : IAt w g F n) (hi : i < n) : w.cell? ⟨g, i, none⟩ = some (.int .i64 (F (i : Nat))) := by
  rw [cell_of_row w g i _ _ _ h, List.getElem?_toArray, iRow_at hi]
theorem IAt.frozen {w : World} {g : Nat} {F : Int → Int} {n i : Nat} (h : IAt w g F n) : w.frozen? ⟨g, i, none⟩ = false := frozen_of_row _ _ _ _ _ h
theorem IAt.below {w w' : World} {g : Nat} {F : Int → Int} {n : Nat} (h : IAt w g F n) (hb : Below w.heap.size w w') : IAt w' g F n := (hb.block g (lt_heap h)).trans h
theorem IAt.grown {w w' : World} {g : Nat} {F : Int → Int} {n : Nat} {r : Option Nat} (h : IAt w g F n) (hg : w.grownBy w' r) (hne : some g ≠ r) : IAt w' g F n := (hg.block g (lt_heap h) hne).trans h
theorem IAt.set {w : World} {g : Nat} {F G : Int → Int} {n k : Nat} (h : IAt w g F n) (hk : k < n) (hpq : ∀ i : Nat, i ≠ k → G i = F i) : IAt (w.setCell ⟨g, k, none⟩ (.int .i64 (G (k : Nat)))) g G n := by
  unfold IAt
  rw [heap_setCell_same w g k _ _ _ h, ← iRow_set hk hpq]
  simp
theorem IAt.congr {w : World} {g : Nat} {F G : Int → Int} {n : Nat} (h : IAt w g F n) (hfg : ∀ i : Nat, i < n → F i = G i) : IAt w g G n := by
  unfold IAt at *
  rw [h]
  congr 3
  unfold iRow
  refine List.map_congr_left fun i hi => ?_
  rw [hfg i (by simpa using hi)]
def addC (f : Int → Int) (xs : List Int) (n : Int) : Int := f n + cntL xs n
theorem addC_step (f : Int → Int) (xs : List Int) (x n : Int) (h : n ≠ x) : addC f (xs ++ [x]) n = addC f xs n := by
  unfold addC
  rw [cntL_snoc, if_neg (fun e => h e.symm)]
  omega
theorem addC_new (f : Int → Int) (xs : List Int) (x : Int) : addC f (xs ++ [x]) x = addC f xs x + 1 := by
  unfold addC
  rw [cntL_snoc, if_pos rfl]
  omega
theorem secsI_len' {n : Nat} {l : Pcs} (hw : ∀ p ∈ l, Wn n p) (hn : n ≤ 4096) (hl : l.length ≤ 4096) {k i : Nat} (hi : i ≤ 4096) : (secsI l k i).length ≤ 16781312 := by
  unfold secsI
  have hb : ∀ p ∈ l.take k, 0 ≤ p.2 ∧ p.2 ≤ 4096 := by
    intro p hp
    have := hw p (List.mem_of_mem_take hp)
    unfold Wn at this
    omega
  have h1 := sumP_bound hb
  have h2 := secs_len_sum (l := l.take k) (fun p hp => (hb p hp).1)
  have h3 : (l.take k).length ≤ 4096 := by simp; omega
  simp only [List.length_append, List.length_map, List.length_range]
  omega

set_option maxHeartbeats 2000000 in
theorem marks_any (g n : Nat) (f : Int → Int) (v : Value) (l : Pcs) (w : World) (hl : PIn w v l) (hkeep : ∀ w', w.grownBy w' (some g) → PIn w' v l) (hrow : IAt w g f n) (hw : ∀ p ∈ l, Wn n p) (hlen : l.length ≤ 4096) (hn : n ≤ 4096) (hf : ∀ i, 0 ≤ f i ∧ f i ≤ 1000000) :
    Calls Try.prog 25 #[v, .slice (some ⟨g, 0, none⟩) n n] w fun e w' => e = .returned (.bool true) ∧ IAt w' g (addC f (secs l)) n ∧ w.grownBy w' (some g) := by
  obtain ⟨q, c, rfl, hq, hlc, hcm, _⟩ := hl.lies
  unfold maxLen at hcm
  have HK : Hid (∀ w', w.grownBy w' (some g) → PcsIn w' q l) := by
    intro w' hg
    obtain ⟨q', c', e, h', _⟩ := (hkeep w' hg).lies
    simp only [Value.slice.injEq] at e
    obtain ⟨rfl, _, _⟩ := e
    exact h'
  have HW : Hid (∀ p ∈ l, Wn n p) := hw
  have H0 : Hid (IAt w g (addC f (secs (l.take 0))) n) := by
    refine hrow.congr fun i _ => ?_
    simp [addC, secs, cntL]
  have hq0 := hq
  clear hl hkeep hrow hw hq
  have HF : Hid (∀ i, 0 ≤ f i ∧ f i ≤ 1000000) := hf
  clear hf
  go_enter Try.func25, Try.ntmps25
  go_wp2
  go_loopw [5] (fun i wr => ∃ k : Nat, k ≤ l.length ∧ i = .int .i64 k ∧ IAt wr g (addC f (secs (l.take k))) n ∧ w.grownBy wr (some g)) (fun i _ => l.length - (intOf i).toNat)
  case atStart => exact ⟨0, by omega, rfl, H0.out, ⟨rfl, rfl, rfl, Nat.le_refl _, fun _ _ _ => rfl⟩⟩
  case round =>
    clear H0
    obtain ⟨k, hk, rfl, hat, hgr⟩ := hrel
    by_cases hkl : k < l.length
    · obtain ⟨b, o, rfl⟩ := hq0.addr (by omega)
      have hwn : Wn n (l.getD k (0, 0)) := HW.out _ (getD_mem' (d := (0, 0)) hkl)
      have HCE : Hid (∀ w', w.grownBy w' (some g) → w'.cell? ⟨b, o + k * 2, none⟩ = some (.int .i64 (l.getD k (0, 0)).1) ∧ w'.cell? ⟨b, o + k * 2 + 1, none⟩ = some (.int .i64 (l.getD k (0, 0)).2)) := fun w' hg => (HK.out w' hg).at hkl
      have HS0 : Hid _ := secsI_zero l k
      have HST : Hid (∀ i, secsI l k (i + 1) = secsI l k i ++ [(l.getD k (0, 0)).1 + (i : Nat)]) := secsI_step l k
      have HSF : Hid _ := secsI_full hkl
      have HSL : Hid (∀ i, i ≤ 4096 → (secsI l k i).length ≤ 16781312) := fun i hi => secsI_len' HW.out hn hlen hi
      have HAT : Hid (IAt wr g (addC f (secsI l k 0)) n) := by show IAt _ _ _ _; rw [HS0.out]; exact hat
      have HGR : Hid (w.grownBy wr (some g)) := hgr
      unfold Wn at hwn
      clear hat hgr HS0 hq0
      generalize hy : l.getD k (0, 0) = y at *
      obtain ⟨a, m'⟩ := y
      simp only at hwn
      obtain ⟨m, rfl⟩ := Int.eq_ofNat_of_zero_le (show 0 ≤ m' by omega)
      obtain ⟨a', rfl⟩ := Int.eq_ofNat_of_zero_le hwn.1
      go_wp2
      go_loopw [6] (fun i wq => ∃ j : Nat, j ≤ m ∧ i = .int .i64 j ∧ IAt wq g (addC f (secsI l k j)) n ∧ w.grownBy wq (some g)) (fun i _ => m - (intOf i).toNat)
      case atStart => exact ⟨0, by omega, rfl, HAT.out, HGR.out⟩
      case round =>
        clear HAT HGR
        obtain ⟨j, hj, rfl, hat, hgr⟩ := hrel
        obtain ⟨e1, e2⟩ := HCE.out wr hgr
        by_cases hjm : j < m
        · have hcell := hat.cell (i := a' + j) (by omega)
          have hfz := hat.frozen (i := a' + j)
          have hbd : 0 ≤ addC f (secsI l k j) ((a' + j : Nat) : Int) ∧ addC f (secsI l k j) ((a' + j : Nat) : Int) ≤ 20000000 := by
            have h1 := HF.out ((a' + j : Nat) : Int)
            have h2 := cntL_bound (secsI l k j) ((a' + j : Nat) : Int)
            have h3 := HSL.out j (by omega)
            unfold addC
            omega
          have R1 : Hid (IAt (wr.setCell ⟨g, a' + j, none⟩ (.int .i64 (addC f (secsI l k j) ((a' + j : Nat) : Int) + 1))) g (addC f (secsI l k (j + 1))) n) := by
            have e : addC f (secsI l k (j + 1)) ((a' + j : Nat) : Int) = addC f (secsI l k j) ((a' + j : Nat) : Int) + 1 := by
              rw [HST.out j]
              have := addC_new f (secsI l k j) ((a' : Int) + (j : Nat))
              rwa [← Int.natCast_add] at this
            show IAt _ _ _ _
            rw [← e]
            refine hat.set (by omega) fun i hi => ?_
            rw [HST.out j]
            exact addC_step _ _ _ _ (by omega)
          have R2 : Hid (w.grownBy (wr.setCell ⟨g, a' + j, none⟩ (.int .i64 (addC f (secsI l k j) ((a' + j : Nat) : Int) + 1))) (some g)) := grown_trans hgr (grown_set _ _ _ _)
          clear hat hgr HSL
          generalize addC f (secsI l k j) ((a' + j : Nat) : Int) = X at *
          go_wp2
          go_roundw
          case rel => exact ⟨j + 1, by omega, by go_num, R1.out, R2.out⟩
          case measure => simp [intOf]; omega
        · obtain rfl : j = m := by omega
          have R1 : Hid (IAt wr g (addC f (secs (l.take (k + 1)))) n) := by
            have h := hat
            have e := HSF.out
            simp only [Int.toNat_natCast] at e
            rwa [e] at h
          have R2 : Hid (w.grownBy wr (some g)) := hgr
          clear hat hgr HSL HST HSF HCE
          go_wp2
          go_roundw
          case rel => exact ⟨k + 1, by omega, by go_num, R1.out, R2.out⟩
          case measure => simp [intOf]; omega
    · obtain rfl : k = l.length := by omega
      rw [List.take_length] at hat
      have R1 : Hid (IAt wr g (addC f (secs l)) n) := hat
      have R2 : Hid (w.grownBy wr (some g)) := hgr
      clear hat hgr hq0
      go_wp2
      go_ret
      exact ⟨rfl, R1.out, R2.out⟩
end Go.Proofs.Ytfplpdnhhefbaaa
