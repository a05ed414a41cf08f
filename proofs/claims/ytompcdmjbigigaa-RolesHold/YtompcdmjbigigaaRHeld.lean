/-
  What roles hold: the program's held, a map of sets.
-/
import Derived.Test.YtompcdmjbigigaaRFit
namespace Go.Proofs.Ytompcdmjbigigaa
open Go.RowKit Go.WideShapes Go.Joins Go.Maps

/-- How a set that is an element reads: its block. -/
def mapE : Value → Option (DataW Unit × List MemPlace)
  | .map none => some (.nil, [])
  | .map (some b) => some (.lit (.int .u64 b), [])
  | _ => none
theorem mapE_inv {v : Value} {b : Nat} {ps : List MemPlace} (h : mapE v = some (.lit (.int .u64 b), ps)) : v = .map (some b) := by
  unfold mapE at h
  split at h
  · cases h
  · simp only [Option.some.injEq, Prod.mk.injEq, DataW.lit.injEq, Lit.int.injEq, true_and] at h
    rename_i b0
    have e : b0 = b := by have := h.1; omega
    rw [e]
  · cases h
theorem set_zero (w : World) : (zeroValue 54).run Try.prog w = .ok (.map none) w := by kernel_rfl
theorem make_hint (t : TypeId) (k e : TypeId) (ht : Try.prog.underlying t = some (.map k e)) (n : Int) (w : World) : (Instr.makeMap t (some (.int .i64 n))).run Try.prog w = .ok (.map (some w.heap.size)) (w.alloc (.map #[] 0)) := by
  simp [Instr.makeMap, run_underlying ht, asInt, asIntOf, Result.andThen]
/-- The map of what the first k roles hold. -/
structure HeldIn (w : World) (base hb : Nat) (L : List Rl) (k : Nat) (D : DataW Unit) (bs : Nat → Nat) : Prop where
  own : w.ownsMap Try.prog 9 mapE hb k D
  isM : IsMap D
  at' : ∀ i, i < k → D.atKey (litS (nmA L i)) .nil = .lit (.int .u64 (bs i))
  has : ∀ s, Maps.has D (litS s) = isIn ((nmL L).take k) s
  sets : ∀ i, i < k → SetAt w (bs i) (L.getD i zR).holds.length (L.getD i zR).holds
  ne : ∀ i, i < k → bs i ≠ hb ∧ base ≤ bs i
theorem HeldIn.kept {w w' : World} {base hb k b : Nat} {L : List Rl} {D : DataW Unit} {bs : Nat → Nat} (h : HeldIn w base hb L k D bs) (hg : w.grownBy w' (some b)) (h1 : b ≠ hb) (h2 : ∀ i, i < k → b ≠ bs i) : HeldIn w' base hb L k D bs :=
  ⟨h.own.kept hg (fun e => h1 (by cases e; rfl)), h.isM, h.at', h.has, fun i hi => (h.sets i hi).kept hg (fun e => h2 i hi (by cases e; rfl)), h.ne⟩
theorem HeldIn.below {w w' : World} {base hb k : Nat} {L : List Rl} {D : DataW Unit} {bs : Nat → Nat} (h : HeldIn w base hb L k D bs) (hb' : Below w.heap.size w w') : HeldIn w' base hb L k D bs :=
  ⟨h.own.kept (row := none) (grown_below hb' none) (by simp), h.isM, h.at', h.has, fun i hi => (h.sets i hi).below hb', h.ne⟩
theorem HeldIn.lt {w : World} {base hb k : Nat} {L : List Rl} {D : DataW Unit} {bs : Nat → Nat} (h : HeldIn w base hb L k D bs) : hb < w.heap.size ∧ ∀ i, i < k → bs i < w.heap.size := ⟨h.own.lt, fun i hi => (h.sets i hi).lt⟩
theorem key_ne {a b : ByteArray} (h : a ≠ b) : litS a ≠ litS b := fun e => h (litS_inj e)
/-- One role more. -/
theorem HeldIn.next {w w' : World} {base hb k b : Nat} {L : List Rl} {D : DataW Unit} {bs : Nat → Nat} (hn : (nmL L).Nodup) (hk : k < L.length) (h : HeldIn w base hb L k D bs) (hg : w.grownBy w' (some hb))
    (ho : w'.ownsMap Try.prog 9 mapE hb (k + 1) (D.put (litS (nmA L k)) (.lit (.int .u64 b)))) (hs : SetAt w b (L.getD k zR).holds.length (L.getD k zR).holds) (hb1 : b ≠ hb) (hb2 : base ≤ b) :
    HeldIn w' base hb L (k + 1) (D.put (litS (nmA L k)) (.lit (.int .u64 b))) (fun i => if i = k then b else bs i) := by
  refine ⟨ho, h.isM.put _ _, fun i hi => ?_, fun s => ?_, fun i hi => ?_, fun i hi => ?_⟩
  · by_cases e : i = k
    · subst e
      rw [if_pos rfl]
      exact atKey_put_same h.isM (show WideAt.IsKeyLit (litS _) from trivial) _ _
    · rw [if_neg e, atKey_put_other (key_ne fun e2 => e (nm_one hn (by omega) hk e2))]
      exact h.at' i (by omega)
  · rw [nml_take hk]
    by_cases e : s = nmA L k
    · subst e
      rw [has_put_same h.isM (show WideAt.IsKeyLit (litS _) from trivial)]
      exact (isIn_iff.2 (by simp)).symm
    · rw [has_put_other (key_ne e), h.has]
      unfold isIn
      rw [List.any_append]
      simp [Ne.symm e]
  · by_cases e : i = k
    · subst e
      simp only [if_true]
      exact hs.kept hg (fun e2 => hb1 (by cases e2; rfl))
    · simp only [if_neg e]
      exact (h.sets i (by omega)).kept hg (fun e2 => (h.ne i (by omega)).1 (by cases e2; rfl))
  · by_cases e : i = k
    · subst e
      simp only [if_true]
      exact ⟨hb1, hb2⟩
    · simp only [if_neg e]
      exact h.ne i (by omega)
theorem HeldIn.none (w' : World) (base hb : Nat) (L : List Rl) (h : w'.ownsMap Try.prog 9 mapE hb 0 (.map [])) : HeldIn w' base hb L 0 (.map []) (fun _ => 0) :=
  ⟨h, isMap_empty, fun _ hi => absurd hi (Nat.not_lt_zero _), fun _ => rfl, fun _ hi => absurd hi (Nat.not_lt_zero _), fun _ hi => absurd hi (Nat.not_lt_zero _)⟩
set_option maxHeartbeats 4000000 in
set_option maxRecDepth 8000 in
theorem held_any (q : Option Addr) (c : Nat) (L : List Rl) (w : World) (h : RolesIn w q L c) (hf : Fit L) :
    Calls Try.prog 34 #[.slice q L.length c] w fun e w' => ∃ hb D bs, e = .returned (.map (some hb)) ∧ HeldIn w' w.heap.size hb L L.length D bs ∧ Below w.heap.size w w' := by
  have hmm := @run_makeMap Try.prog
  obtain ⟨n, hN⟩ : ∃ n, L.length = n := ⟨_, rfl⟩
  have hn := hf.few
  have HH : Hid (RolesIn w q L c ∧ L.length = n ∧ n ≤ 32 ∧ Fit L) := ⟨h, hN, by omega, hf⟩
  rw [hN] at hn ⊢
  have hnI : (n : Int) ≤ 32 := by omega
  have hn0 : (0 : Int) ≤ (n : Int) := by omega
  clear h hN hn hf
  go_enter Try.func34, Try.ntmps34
  have hmh := make_hint 70 _ _ Try.underlying70 (n : Int) w
  go_wp2
  have HMM : Hid _ := hmm
  clear hmm hmh
  go_loopw [14] (fun t wr => ∃ k D bs, t = .int .i64 (k : Nat) ∧ k ≤ n ∧ HeldIn wr w.heap.size w.heap.size L k D bs ∧ Below w.heap.size w wr ∧ w.heap.size < wr.heap.size) (fun t _ => n - (intOf t).toNat)
  case atStart => exact ⟨0, _, _, rfl, Nat.zero_le _, HeldIn.none _ _ _ _ (World.ownsMap_made _ _ _ _), (Below.refl _ _).alloc (Nat.le_refl _) _, by simp⟩
  case round =>
    obtain ⟨k, D, bs, rfl, hk, hI, hb, hg⟩ := hrel
    generalize wr = wo at hI hb hg ⊢
    have HI : Hid (HeldIn wo w.heap.size w.heap.size L k D bs ∧ Below w.heap.size w wo ∧ w.heap.size < wo.heap.size) := ⟨hI, hb, hg⟩
    clear hI hg
    by_cases hlt : k < n
    · have hkI : (k : Int) < (n : Int) := by omega
      have hk0 : (0 : Int) ≤ (k : Int) := by omega
      have HK : Hid (k < n ∧ k < L.length) := ⟨hlt, by have := HH.out.2.1; omega⟩
      have hen := HH.out.1.below hb
      obtain ⟨fb, fo, rfl⟩ := hen.addr (by have := HH.out.2; omega)
      obtain ⟨hq, hc, mq, mc, hr⟩ := hen.at (i := k) HK.out.2
      obtain ⟨z0, z1, z2, hh, _, hsz⟩ := hr
      obtain ⟨hl, hhl⟩ : ∃ hl, (L.getD k zR).holds.length = hl := ⟨_, rfl⟩
      obtain ⟨ml, hml⟩ : ∃ ml, (L.getD k zR).may.length = ml := ⟨_, rfl⟩
      have hlI : (hl : Int) ≤ 32 := by have := HH.out.2.2.2.hl _ (rl_mem HK.out.2); omega
      have HS : Hid ((L.getD k zR).name = nmA L k ∧ (nmA L k).size ≤ maxLen ∧ (L.getD k zR).holds.length = hl ∧ hl ≤ 32) := ⟨rfl, hsz, hhl, by omega⟩
      have hne : (L.getD k zR).name = nmA L k := rfl
      have hkey := key_of (nmA L k) hsz
      rw [hhl] at z1
      rw [hml] at z2
      rw [hne] at z0
      have HHS : Hid (StrsIn wo hq (L.getD k zR).holds hc) := hh
      generalize hs0 : nmA L k = s at z0 hkey
      have bn := below_new wo (.cells #[.string s, .slice hq hl hc, .slice mq ml mc] 37)
      have n1 := _root_.Go.heap_alloc_new wo (.cells #[.string s, .slice hq hl hc, .slice mq ml mc] 37)
      have x0 := Lib.cell_of_heap n1 0
      have x1 := Lib.cell_of_heap n1 1
      simp only [List.getElem?_toArray] at x0 x1
      have hmm := HMM.out
      have HN : Hid (nmA L k = s) := hs0
      have hg0 : w.heap.size < wo.heap.size := HI.out.2.2
      have bm := below_new (wo.alloc (.cells #[.string s, .slice hq hl hc, .slice mq ml mc] 37)) (.map #[] 0)
      have B2 : Below wo.heap.size wo ((wo.alloc (.cells #[.string s, .slice hq hl hc, .slice mq ml mc] 37)).alloc (.map #[] 0)) := below_more bn bm
      have S2 : SetAt ((wo.alloc (.cells #[.string s, .slice hq hl hc, .slice mq ml mc] 37)).alloc (.map #[] 0)) (wo.heap.size + 1) 0 [] := by
        have := World.ownsMap_made (H := Unit) (wo.alloc (.cells #[.string s, .slice hq hl hc, .slice mq ml mc] 37)) Try.prog 9 unitElem
        rw [World.size_alloc] at this
        exact this
      have y0 := below_cell x0 bm
      have z2' : wo.heap.size + 1 < ((wo.alloc (.cells #[.string s, .slice hq hl hc, .slice mq ml mc] 37)).alloc (.map #[] 0)).heap.size := by simp
      have HB2 : Hid (Below wo.heap.size wo ((wo.alloc (.cells #[.string s, .slice hq hl hc, .slice mq ml mc] 37)).alloc (.map #[] 0)) ∧ wo.heap.size + 1 < ((wo.alloc (.cells #[.string s, .slice hq hl hc, .slice mq ml mc] 37)).alloc (.map #[] 0)).heap.size ∧ w.heap.size < wo.heap.size) := ⟨B2, z2', hg0⟩
      have HS2 : Hid (SetAt ((wo.alloc (.cells #[.string s, .slice hq hl hc, .slice mq ml mc] 37)).alloc (.map #[] 0)) (wo.heap.size + 1) 0 []) := S2
      have HY0 : Hid (((wo.alloc (.cells #[.string s, .slice hq hl hc, .slice mq ml mc] 37)).alloc (.map #[] 0)).cell? ⟨wo.heap.size, 0, none⟩ = some (.string s)) := y0
      clear n1 hb hen hlt hk hsz hhl hml hne hs0 hh bm B2 S2 z2' y0 hg0 bn
      go_wp2_with fail
      clear x0 x1 hmm
      generalize (wo.alloc (.cells #[.string s, .slice hq hl hc, .slice mq ml mc] 37)).alloc (.map #[] 0) = W2 at HB2 HS2 HY0 ⊢
      go_loopw [22] (fun t wr => ∃ j : Nat, j ≤ hl ∧ t = .int .i64 (j : Int) ∧ SetAt wr (wo.heap.size + 1) j ((L.getD k zR).holds.take j) ∧ W2.grownBy wr (some (wo.heap.size + 1))) (fun t _ => hl - (intOf t).toNat)
      case atStart => exact ⟨0, Nat.zero_le _, rfl, HS2.out, World.grownBy.refl _ _⟩
      case round =>
        obtain ⟨j, hj, rfl, hset, hgw⟩ := hrel
        have HJ : Hid (SetAt wr (wo.heap.size + 1) j ((L.getD k zR).holds.take j) ∧ W2.grownBy wr (some (wo.heap.size + 1))) := ⟨hset, hgw⟩
        clear hset
        by_cases hlt : j < hl
        · have hjI : (j : Int) < (hl : Int) := by omega
          have hj0 : (0 : Int) ≤ (j : Int) := by omega
          have HJK : Hid (j < hl ∧ j < (L.getD k zR).holds.length) := ⟨hlt, by have := HS.out.2.2.1; omega⟩
          obtain ⟨sb, so, rfl⟩ := HHS.out.addr (by have := HJK.out; omega)
          have c0 := HHS.out.at (i := j) HJK.out.2
          have c2 := below_cell c0 HB2.out.1
          have c3 := hgw.cell c2 (by
            have h1 := World.block_lt_of_cell? _ _ c0
            simp only at h1 ⊢
            intro e
            injection e with e
            omega)
          have hsz2 := HHS.out.fits _ (getB_mem (l := (L.getD k zR).holds) (i := j) HJK.out.2)
          have HT : Hid ((L.getD k zR).holds.take (j + 1) = (L.getD k zR).holds.take j ++ [(L.getD k zR).holds.getD j ByteArray.empty]) := take_snoc _ _ HJK.out.2
          have PT := put_any (wo.heap.size + 1) j ((L.getD k zR).holds.take j) ((L.getD k zR).holds.getD j ByteArray.empty) wr hsz2 HJ.out.1 (by have := HS.out.2.2.2; unfold maxLen; omega)
          generalize (L.getD k zR).holds.getD j ByteArray.empty = x at c3 PT HT
          clear hgw hlt hj c0 c2 hsz2
          go_wp2_with fail
          refine PT.mono ?_
          rintro e w3 ⟨rfl, hs3, hg3⟩
          simp only []
          go_wp2_with fail
          go_roundw
          case rel => exact ⟨j + 1, HJK.out.1, by go_num, by rw [HT.out]; exact hs3, grown_trans HJ.out.2 hg3⟩
          case measure => have := HJK.out.1; simp [intOf]; omega
        · obtain rfl : j = hl := by omega
          have htk : (L.getD k zR).holds.take j = (L.getD k zR).holds := by rw [← HS.out.2.2.1, List.take_length]
          have hset2 := HJ.out.1
          rw [htk] at hset2
          have hI2 := (HI.out.1.below HB2.out.1).kept hgw (by have := HB2.out.2.2; omega) (fun i hi => by have := HI.out.1.lt.2 i hi; omega)
          have HI2 : Hid (HeldIn wr w.heap.size w.heap.size L k D bs ∧ SetAt wr (wo.heap.size + 1) (L.getD k zR).holds.length (L.getD k zR).holds ∧ Below w.heap.size w wr ∧ w.heap.size < wr.heap.size) :=
            ⟨hI2, by rw [HS.out.2.2.1]; exact hset2, below_of_grown (below_more HI.out.2.1 HB2.out.1) hgw (by have := HB2.out.2.2; omega), by have := hgw.size; have := HB2.out.2; omega⟩
          have y0 := hgw.cell HY0.out (by simp only; intro e; injection e with e; omega)
          have hown := HI2.out.1.own
          have hkm : k < maxLen := by have := HK.out.1; have := HH.out.2.2.1; unfold maxLen; omega
          clear hI2 hset2 htk hgw hlt hj
          go_wp2_with (first
            | (at_mapUpdate; refine wpList_mapUpdate_own _ rfl _ _ _ 70 rfl 9 54 map_keyed Try.underlying70 mapE w.heap.size k _ rfl hown hkm _ _ _ rfl rfl hkey (.lit (.int .u64 ((wo.heap.size + 1 : Nat) : Int))) [] rfl ?_; intro w3 hown3 hgrow3)
            | fail)
          go_roundw
          case rel =>
            rw [← HN.out] at hown3
            refine ⟨k + 1, _, _, by go_num, HK.out.1, HI2.out.1.next HH.out.2.2.2.nodup HK.out.2 hgrow3 hown3 HI2.out.2.1 (by have := HB2.out.2.2; omega) (by have := HB2.out.2.2; omega), below_of_grown HI2.out.2.2.1 hgrow3 (Nat.le_refl _), Nat.lt_of_lt_of_le HI2.out.2.2.2 hgrow3.size⟩
          case measure => have := HK.out.1; simp [intOf]; omega
    · obtain rfl : k = n := by omega
      clear hk hlt hb
      go_wp2_with fail
      go_ret
      exact ⟨_, _, _, rfl, HI.out.1, HI.out.2.1⟩
end Go.Proofs.Ytompcdmjbigigaa
