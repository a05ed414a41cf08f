/-
  A disk in a box of the call's own.
-/
import Derived.Test.YtiakfdhbbkpfhaaGreatDoorJ36
import Derived.Test.YtiakfdhbbkpfhaaGreatDoorJ18
import Derived.Test.YtiakfdhbbkpfhaaGreatDoorJ34
import Derived.Test.YtiakfdhbbkpfhaaGreatDoorJ24
import Derived.Deep.CutRange
namespace Go.Proofs.YtiakfdhbbkpfhaaGreatDoor
open Go.RowKit Go.WideShapes Rm

/-- A turn that can be done, with the new directory told. -/
theorem turnIs_ok2 {count : Int} {data : List Nat} {ws : Puts} {r : Option (DirV × Int)} {n : Int} {l : List CV} {A : Acts} (hm : MountIs count data ws r n) (h : TurnIs count data ws r n l 0 A) : ∃ (x y : DirV) (at_ other : Nat) (fs : List FileV), r = some (x, (at_ : Int)) ∧ TurnOk count data ws l x y at_ other fs A ∧ y.gen = genK data ws other x.gen 8 + 1 ∧ ((x.files.filter fun f => !namedC l f.name) ++ fs).Perm y.files := by
  generalize hz : (0 : Int) = z at h
  cases h with
  | none h =>
    subst h
    rcases mountIs_none hm with h | h <;> omega
  | chg x at_ E h hE h0 => exact absurd hz.symm h0
  | many x at_ h hE hm' => cases hz
  | place x at_ E h hE hm' hp => exact absurd hz.symm (place_ne hp)
  | last x o P h ho hE hm' hp hG => cases hz
  | bad x o P ss G m b h ho hE hm' hp hG hG2 hpm hup hw hm0 => exact absurd hz.symm hm0
  | ok x o P ss G b F h ho hE hm' hp hG hG2 hpm hup hw hF =>
    subst h
    have hms := mount_slot ho hm
    have hsm := mountIs_some hm
    have hG' : G < 4611686018427387904 := by
      have h1 := genK_hi data ws o x.gen hsm.1.hi 8
      omega
    have hfr := next_fresh hG hG'
    cases hw with
    | ok h1 h2 =>
      refine ⟨x, ⟨G, ss⟩, 8 - o, o, P, ?_, ⟨by omega, hsm.2.2.2.2, hsm.2.2.2.1, hms.1, hms.2, ⟨h1, h2, rfl⟩, hfr.1, hfr.2, chg_pair hE, by rw [putting_of]; exact hp, fun f => ?_, ?_⟩, hG.symm, hpm⟩
      · have : ((8 - o : Nat) : Int) = 8 - (o : Int) := by omega
        rw [this]
      · rw [stay_of]
        show f ∈ ss ↔ _
        rw [← hpm.mem_iff, List.mem_append]
      · rw [vals_of, hF]
        rfl
theorem turnIs_chg {count : Int} {data : List Nat} {ws : Puts} {x : DirV} {at_ n m E : Int} {l : List CV} {A : Acts} (h : TurnIs count data ws (some (x, at_)) n l m A) (hE : chgE x.files l = E) (h0 : E ≠ 0) : m = E := by
  cases h with
  | none h => cases h
  | chg x' at' E' h hE' h0' => cases h; exact hE'.symm.trans hE
  | many x' at' h hE' hm' => cases h; exact absurd (hE.symm.trans hE') h0
  | place x' at' E' h hE' hm' hp => cases h; exact absurd (hE.symm.trans hE') h0
  | last x' o P h ho hE' hm' hp hG => cases h; exact absurd (hE.symm.trans hE') h0
  | bad x' o P ss G m b h ho hE' hm' hp hG hG2 hpm hup hw hm0 => cases h; exact absurd (hE.symm.trans hE') h0
  | ok x' o P ss G b F h ho hE' hm' hp hG hG2 hpm hup hw hF => cases h; exact absurd (hE.symm.trans hE') h0
theorem turnIs_place {count : Int} {data : List Nat} {ws : Puts} {x : DirV} {at_ n m E : Int} {l : List CV} {A : Acts} (h : TurnIs count data ws (some (x, at_)) n l m A) (hE : chgE x.files l = 0) (hf : (x.files.filter fun f => !namedC l f.name).length + (putsC l).length ≤ 32) (hp : placeN count (allPcs x.files) (csOf (putsC l)) = .error E) : m = E := by
  cases h with
  | none h => cases h
  | chg x' at' E' h hE' h0' => cases h; exact absurd (hE'.symm.trans hE) h0'
  | many x' at' h hE' hm' => cases h; omega
  | place x' at' E' h hE' hm' hp' => cases h; rw [hp] at hp'; cases hp'; rfl
  | last x' o P h ho hE' hm' hp' hG => cases h; rw [hp] at hp'; cases hp'
  | bad x' o P ss G m b h ho hE' hm' hp' hG hG2 hpm hup hw hm0 => cases h; rw [hp] at hp'; cases hp'
  | ok x' o P ss G b F h ho hE' hm' hp' hG hG2 hpm hup hw hF => cases h; rw [hp] at hp'; cases hp'
/-- A turn whose directory may be goes well. -/
theorem turnIs_fine {count : Int} {data : List Nat} {ws : Puts} {x : DirV} {at_ n m : Int} {l : List CV} {A : Acts} (h : TurnIs count data ws (some (x, at_)) n l m A) (hE : chgE x.files l = 0) (hf : (x.files.filter fun f => !namedC l f.name).length + (putsC l).length ≤ 32) {P : List FileV} (hp : placeN count (allPcs x.files) (csOf (putsC l)) = .ok P)
    {G : Int} (hg : ∀ o : Nat, at_ = 8 - (o : Int) → genK data ws o x.gen 8 + 1 = G) (hG : G ≠ 4611686018427387904) (hok : ∀ ss, ((x.files.filter fun f => !namedC l f.name) ++ P).Perm ss → Wrote ⟨G, ss⟩ 0 (bytesN ⟨G, ss⟩)) : m = 0 := by
  cases h with
  | none h => cases h
  | chg x' at' E' h hE' h0' => cases h; exact absurd (hE'.symm.trans hE) h0'
  | many x' at' h hE' hm' => cases h; omega
  | place x' at' E' h hE' hm' hp' => cases h; rw [hp] at hp'; cases hp'
  | last x' o P' h ho hE' hm' hp' hG' =>
    cases h
    exact absurd ((hg o rfl).symm.trans hG') hG
  | bad x' o P' ss G' m b h ho hE' hm' hp' hG' hG2 hpm hup hw hm0 =>
    cases h
    rw [hp] at hp'
    cases hp'
    obtain rfl : G = G' := (hg o rfl).symm.trans hG'
    exact (hw.only (hok ss hpm)).1
  | ok x' o P' ss G' b F h ho hE' hm' hp' hG' hG2 hpm hup hw hF => rfl
/-! ### the examples -/
def bName : ByteArray := ⟨#[98]⟩
def aF : FileV := ⟨aName, 130, [(80, 2)]⟩
def bF : FileV := ⟨bName, 0, []⟩
def dirA : DirV := ⟨2, [aF]⟩
def dirB : DirV := ⟨3, [bF]⟩
def chgAB : List CV := [⟨aName, ⟨#[]⟩, true⟩, ⟨bName, ⟨#[]⟩, false⟩]
def xName : ByteArray := ⟨#[120]⟩
def upName : ByteArray := ⟨#[65]⟩
theorem ab_chg : chgE [aF] chgAB = 0 := by decide +kernel
theorem e1_chg : chgE [] [⟨xName, ⟨#[]⟩, true⟩] = 6 := by decide +kernel
theorem e2_chg : chgE [] [⟨upName, ⟨#[]⟩, false⟩] = 5 := by decide +kernel
theorem e3_chg : chgE [] [⟨aName, ⟨#[]⟩, false⟩, ⟨aName, ⟨#[]⟩, false⟩] = 8 := by decide +kernel
theorem e4_errT : errT 80 100 [] 21 = 30 := by decide +kernel
theorem e4_place : placeN 100 [] (csOf [aFile 2561]) = .error 30 := by
  show placeN 100 [] [(aName, numsOf (aFile 2561).val)] = _
  have hn : needsN (((numsOf (aFile 2561).val).length : Nat) : Int) = 21 := by rw [a_len]; decide
  unfold placeN
  simp only
  rw [hn, if_neg (by decide), e4_errT, if_pos (by decide)]
theorem b_errT : errT 80 100 [(80, 2)] 0 = 0 := by decide +kernel
theorem b_resT : resT 80 100 [(80, 2)] 0 = [] := by decide +kernel
theorem ab_puts : putsC chgAB = [⟨bName, ⟨#[]⟩, false⟩] := rfl
theorem ab_place : placeN 100 (allPcs [aF]) (csOf (putsC chgAB)) = .ok [bF] := by
  show placeN 100 [(80, 2)] [(bName, [])] = _
  unfold placeN
  simp only
  rw [show needsN ((([] : List Nat).length : Nat) : Int) = 0 by decide, if_neg (by decide), b_errT, if_neg (by decide), b_resT]
  rfl
theorem ab_few : (([aF] : List FileV).filter fun f => !namedC chgAB f.name).length + (putsC chgAB).length ≤ 32 := by decide +kernel
theorem ab_stay : (([aF] : List FileV).filter fun f => !namedC chgAB f.name) = [] := by
  have h : namedC chgAB aF.name = true := by decide +kernel
  simp [h]
theorem b_may : May ltS dirB :=
  ⟨by decide, by decide, by simp [dirB], fun i hi => absurd hi (by simp [dirB]), by decide +kernel, fun f hf => by rw [List.mem_singleton.1 hf]; exact ⟨by decide +kernel, by decide, by decide, by simp [bF], by decide⟩⟩
theorem b_short : (insideN dirB.files).length ≤ 952 := by decide +kernel
/-- The acts of the first turn. -/
theorem a_acts (v : List Nat) : filesA [aF] [v] = [(false, 80, partN v 0), (false, 81, partN v 1)] := rfl
theorem a_turn {D : List Nat} (h : FmtIs 100 D) {A : Acts} (ht : TurnIs 100 D [] (some (emptyD, 0)) 0 [aFile 130] 0 A) : ∃ v, A = turnA [(false, 80, partN v 0), (false, 81, partN v 1)] 8 dirA ∧ ∃ D2, doAny 100 D [] A = .ok (D2, []) ∧ Okay 100 D2 [] ∧ MountIs 100 D2 [] (some (dirA, 8)) 0 ∧ slotK D2 [] 0 8 = bytesN emptyD := by
  have hm : MountIs 100 D [] (some (emptyD, 0)) 0 := fmt_mount (n := 100) (by decide) (by decide) h
  have hok0 : Okay 100 D [] := fmt_okay (n := 100) (by decide) (by decide) h
  obtain ⟨x, y, at_, other, fs, hr, hok, hgen, hpm⟩ := turnIs_ok2 hm ht
  simp only [Option.some.injEq, Prod.mk.injEq] at hr
  obtain ⟨rfl, hat⟩ := hr
  obtain rfl : at_ = 0 := by omega
  obtain rfl : other = 8 := by have := hok.hao; omega
  have hfs : fs = [aF] := by
    have h1 := hok.hpl
    rw [putting_of] at h1
    have h2 := h1.symm.trans a_place
    exact Except.ok.inj h2
  subst hfs
  have hg := fmt_gen (n := 100) (by decide) (by decide) h 8 (Nat.le_refl _)
  have hy : y = dirA := by
    rcases y with ⟨g, l⟩
    have h1 : ([] ++ [aF] : List FileV).Perm l := hpm
    have h2 : l = [aF] := List.perm_singleton.1 h1.symm
    have h3 : g = 2 := by
      have h4 : g = genK D [] 8 1 8 + 1 := hgen
      rw [h4, hg]
      rfl
    rw [h2, h3]
    rfl
  subst hy
  have hal := (alive_turn h ht).2
  obtain ⟨D2, e1, e2, e3, _⟩ := turn_result hok (by simp; omega)
  have e' := e1
  rw [hok.hA] at e'
  have hdn := done_holds ltB_tot ltB_irr ltB_tr hok.hao hok.ho hok.hc hok.hsx hok.hy hok.hxy hok.hd hok.hpl hok.hmem e'
  exact ⟨numsOf (aFile 130).val, hok.hA, D2, by rw [doAny_ok _ hok0]; exact e1, e2, e3, hdn.1.1.2.2⟩
theorem a_acts12 (v : List Nat) : (turnA [(false, 80, partN v 0), (false, 81, partN v 1)] 8 dirA).length = 12 := rfl
theorem sec_slot {count : Int} {data : List Nat} {ws : Puts} (h : Okay count data ws) {a i : Nat} : ∀ {k : Nat}, i < k → ((a + k : Nat) : Int) ≤ count → secAt (slotK data ws a k) i = nowN data ws ((a + i : Nat) : Int)
  | k + 1, hi, hc => by
    have hl := slotK_len h (a := a) (k := k) (by omega)
    have hl1 := slotK_len h (a := a) (k := k + 1) hc
    rw [slotK_snoc, List.length_append, hl] at hl1
    rw [slotK_snoc]
    unfold secAt
    by_cases e : i = k
    · subst e
      rw [List.drop_append_of_le_length (by omega), List.drop_eq_nil_of_le (by omega), List.nil_append, List.take_of_length_le (by omega)]
    · have ih := sec_slot h (a := a) (i := i) (k := k) (by omega) (by omega)
      unfold secAt at ih
      have h1 : i * 128 + 128 ≤ k * 128 := by omega
      rw [List.drop_append_of_le_length (by omega), List.take_append_of_le_length (by rw [List.length_drop]; omega), ih]
theorem empty_gens : ∀ i, i < 8 → beg8 (secAt (bytesN emptyD) i) = 1 := by decide +kernel
theorem b_gen {D2 : List Nat} (ho : Okay 100 D2 []) (hs : slotK D2 [] 0 8 = bytesN emptyD) : ∀ k, k ≤ 8 → genK D2 [] 0 2 k = 2
  | 0, _ => rfl
  | k + 1, hk => by
    have ih := b_gen ho hs k (by omega)
    have hz : beg8 (nowN D2 [] ((0 + k : Nat) : Int)) = 1 := by
      rw [← sec_slot ho (a := 0) (i := k) (k := 8) (by omega) (by decide), hs]
      exact empty_gens k (by omega)
    rw [genK, ih, hz]
    decide
/-- The second turn. -/
theorem b_turn {D2 : List Nat} (ho : Okay 100 D2 []) (hm : MountIs 100 D2 [] (some (dirA, 8)) 0) (hs : slotK D2 [] 0 8 = bytesN emptyD) {m : Int} {A : Acts} (ht : TurnIs 100 D2 [] (some (dirA, 8)) 0 chgAB m A) : m = 0 ∧ ∃ D3, doAny 100 D2 [] A = .ok (D3, []) ∧ MountIs 100 D3 [] (some (dirB, 0)) 0 := by
  have hg := b_gen ho hs 8 (Nat.le_refl _)
  have hm0 : m = 0 := by
    refine turnIs_fine ht ab_chg ab_few ab_place (G := 3) (fun o h => ?_) (by decide) (fun ss hp => ?_)
    · obtain rfl : o = 0 := by omega
      show genK D2 [] 0 2 8 + 1 = 3
      rw [hg]
      rfl
    · have h1 : ([] ++ [bF] : List FileV).Perm ss := by rw [← ab_stay]; exact hp
      have h2 : ss = [bF] := List.perm_singleton.1 h1.symm
      subst h2
      exact .ok b_may b_short
  subst hm0
  obtain ⟨x, y, at_, other, fs, hr, hok, hgen, hpm⟩ := turnIs_ok2 hm ht
  simp only [Option.some.injEq, Prod.mk.injEq] at hr
  obtain ⟨rfl, hat⟩ := hr
  obtain rfl : at_ = 8 := by omega
  obtain rfl : other = 0 := by have := hok.hao; omega
  have hfs : fs = [bF] := by
    have h1 := hok.hpl
    rw [putting_of] at h1
    have h2 := h1.symm.trans ab_place
    exact Except.ok.inj h2
  subst hfs
  have hy : y = dirB := by
    rcases y with ⟨g, l⟩
    have h1 : ([] ++ [bF] : List FileV).Perm l := by rw [← ab_stay]; exact hpm
    have h2 : l = [bF] := List.perm_singleton.1 h1.symm
    have h3 : g = 3 := by
      have h4 : g = genK D2 [] 0 2 8 + 1 := hgen
      rw [h4, hg]
      rfl
    rw [h2, h3]
    rfl
  subst hy
  have hal : A.length ≤ 20 := by
    rw [hok.hA]
    have h1 := filesA_le [bF] ((puttingN (chgAB.map toV)).map Prod.snd)
    have h2 : (secs (allPcs [bF])).length = 0 := by decide +kernel
    unfold turnA slotA
    rw [List.length_append, List.length_append, List.length_map, List.length_range]
    split <;> simp <;> omega
  obtain ⟨D3, e1, _, e3, _⟩ := turn_result hok (by simp; omega)
  exact ⟨rfl, D3, by rw [doAny_ok _ ho]; exact e1, e3⟩
theorem zero_mount : MountIs 100 (List.replicate (100 * 128) 0) [] none 40 := by
  have hsl : ∀ a, a + 8 ≤ 100 → slotK (List.replicate (100 * 128) 0) [] a 8 = List.replicate 1024 0 := fun a ha => by
    rw [← zeros_slot]
    unfold slotK
    rw [List.flatMap_def, List.flatMap_def]
    congr 1
    refine List.map_congr_left fun i hi => ?_
    rw [List.mem_range] at hi
    exact zero_now (n := 100) (a + i) (by omega)
  refine .inr (.inr ⟨zeros_okay (n := 100) (by decide) (by decide), by decide, none, none, ?_, ?_, rfl, rfl⟩)
  · rw [hsl 0 (by decide)]
    exact fun x hx => absurd hx (zeros_none x)
  · rw [hsl 8 (by decide)]
    exact fun x hx => absurd hx (zeros_none x)
theorem a_room : roomN 100 (some (emptyD, 0)) = 20 := by decide +kernel
theorem b_room : roomN 100 (some (dirA, 8)) = 18 := by decide +kernel
end Go.Proofs.YtiakfdhbbkpfhaaGreatDoor
namespace Go.Proofs.YtiakfdhbbkpfhaaGreatDoor
open Go.RowKit Go.WideShapes Rm

set_option maxRecDepth 8000 in
set_option maxHeartbeats 2000000 in
theorem format_bad (n : Int) (w : World) (h : n < 96 ∨ 4096 < n) :
    Calls Tryz.prog 31 #[.int .i64 n] w fun e w' => ∃ ev, e = .returned (.tuple #[.agg #[.int .i64 0, .slice none 0 0, .slice none 0 0], ev]) ∧ Faults ev 20 ∧ Below w.heap.size w w' := by
  have HR : Hid ((w.alloc (.cells #[.int .i64 0, .slice none 0 0, .slice none 0 0] 25)).heap[w.heap.size]? = some (.cells #[.int .i64 0, .slice none 0 0, .slice none 0 0] 25 (0, 0))) := heap_alloc_new _ _
  rcases h with h | h
  · obtain ⟨⟨d0, d1, d2⟩, f0, f1, f2⟩ := cells3f HR.out
    go_enter Tryz.func31, Tryz.ntmps31
    go_wp2
    (try simp only [Exit.inBlock, Exit.then])
    refine bodyPost_ret (v := .tuple #[.agg #[.int .i64 0, .slice none 0 0, .slice none 0 0], .iface 120 (.agg #[.string ⟨#[99, 111, 117, 110, 116]⟩, .iface 26 (.int .i64 20)])]) ?_ rfl ?_
    · rw [results_cell_tmp rfl]
      go_simp
    · refine ⟨_, rfl, Faults.one _ _, ?_⟩
      first
        | exact below_alloc _ _
        | exact below3 (below_alloc _ _) (Nat.le_refl _) _ _ _
  · have hnew := new_bad n (w.alloc (.cells #[.int .i64 0, .slice none 0 0, .slice none 0 0] 25)) (by omega)
    go_enter Tryz.func31, Tryz.ntmps31
    go_wp2_with fail
    refine hnew.mono ?_
    rintro e w1 ⟨rfl, hb1⟩
    have HX : Hid ((w1.alloc (.cells #[.int .i64 0, .slice none 0 0, .slice none 0 0] 25)).heap[w.heap.size]? = some (.cells #[.int .i64 0, .slice none 0 0, .slice none 0 0] 25 (0, 0))) := ((below_bt hb1 (below_alloc _ _)).block _ (lt_heap HR.out)).trans HR.out
    have HB : Hid (Below w.heap.size w (w1.alloc (.cells #[.int .i64 0, .slice none 0 0, .slice none 0 0] 25))) := below_bt (below_alloc _ _) (below_bt hb1 (below_alloc _ _))
    obtain ⟨⟨d0, d1, d2⟩, f0, f1, f2⟩ := cells3f HX.out
    clear hb1 hnew
    go_wp2
    (try simp only [Exit.inBlock, Exit.then])
    refine bodyPost_ret (v := .tuple #[.agg #[.int .i64 0, .slice none 0 0, .slice none 0 0], .iface 120 (.agg #[.string ⟨#[99, 111, 117, 110, 116]⟩, .iface 26 (.int .i64 20)])]) ?_ rfl ?_
    · rw [results_cell_tmp rfl]
      go_simp
    · refine ⟨_, rfl, Faults.one _ _, ?_⟩
      first
        | exact HB.out
        | exact below3 HB.out (Nat.le_refl _) _ _ _
/-- The cells of the results, laid down twice. -/
def fmtX (w1 : World) (H : Nat) (a b c ev : Value) : World := (((((((w1.setCell ⟨H, 0, none⟩ a).setCell ⟨H, 1, none⟩ b).setCell ⟨H, 2, none⟩ c).setCell ⟨H + 1 + 1, 0, none⟩ ev).setCell ⟨H, 0, none⟩ a).setCell ⟨H, 1, none⟩ b).setCell ⟨H, 2, none⟩ c).setCell ⟨H + 1, 0, none⟩ (.int .i64 0)
section
variable {w1 : World} {H : Nat} {a b c x0 x1 x2 e r ev : Value}
theorem fmtX_err (h : w1.cell? ⟨H + 1 + 1, 0, none⟩ = some r) : (fmtX w1 H a b c ev).cell? ⟨H + 1 + 1, 0, none⟩ = some ev := by
  unfold fmtX
  rw [o1 _ _ (ab_ne (by omega)), o1 _ _ (ab_ne (by omega)), o1 _ _ (ab_ne (by omega)), o1 _ _ (ab_ne (by omega))]
  refine o2 (u := r) ?_
  rw [o1 _ _ (ab_ne (by omega)), o1 _ _ (ab_ne (by omega)), o1 _ _ (ab_ne (by omega))]
  exact h
theorem fmtX_num (h : w1.cell? ⟨H + 1, 0, none⟩ = some e) : (fmtX w1 H a b c ev).cell? ⟨H + 1, 0, none⟩ = some (.int .i64 0) := by
  unfold fmtX
  refine o2 (u := e) ?_
  rw [o1 _ _ (ab_ne (by omega)), o1 _ _ (ab_ne (by omega)), o1 _ _ (ab_ne (by omega)), o1 _ _ (ab_ne (by omega)), o1 _ _ (ab_ne (by omega)), o1 _ _ (ab_ne (by omega)), o1 _ _ (ab_ne (by omega))]
  exact h
theorem fmtX_fr (h : w1.frozen? ⟨H + 1, 0, none⟩ = false) : (fmtX w1 H a b c ev).frozen? ⟨H + 1, 0, none⟩ = false := by
  unfold fmtX
  simpa using h
theorem fmtX_cells (h0 : w1.cell? ⟨H, 0, none⟩ = some x0) (h1 : w1.cell? ⟨H, 1, none⟩ = some x1) (h2 : w1.cell? ⟨H, 2, none⟩ = some x2) : (fmtX w1 H a b c ev).cell? ⟨H, 0, none⟩ = some a ∧ (fmtX w1 H a b c ev).cell? ⟨H, 1, none⟩ = some b ∧ (fmtX w1 H a b c ev).cell? ⟨H, 2, none⟩ = some c := by
  unfold fmtX
  refine ⟨?_, ?_, ?_⟩
  · rw [o1 _ _ (ab_ne (by omega)), o1 _ _ (ij_ne (by decide)), o1 _ _ (ij_ne (by decide))]
    refine o2 (u := a) ?_
    rw [o1 _ _ (ab_ne (by omega)), o1 _ _ (ij_ne (by decide)), o1 _ _ (ij_ne (by decide))]
    exact o2 h0
  · rw [o1 _ _ (ab_ne (by omega)), o1 _ _ (ij_ne (by decide))]
    refine o2 (u := b) ?_
    rw [o1 _ _ (ij_ne (by decide)), o1 _ _ (ab_ne (by omega)), o1 _ _ (ij_ne (by decide))]
    refine o2 (u := x1) ?_
    rw [o1 _ _ (ij_ne (by decide))]
    exact h1
  · rw [o1 _ _ (ab_ne (by omega))]
    refine o2 (u := c) ?_
    rw [o1 _ _ (ij_ne (by decide)), o1 _ _ (ij_ne (by decide)), o1 _ _ (ab_ne (by omega))]
    refine o2 (u := x2) ?_
    rw [o1 _ _ (ij_ne (by decide)), o1 _ _ (ij_ne (by decide))]
    exact h2
theorem fmtX_other {k : Nat} (h0 : k ≠ H) (h1 : k ≠ H + 1) (h2 : k ≠ H + 1 + 1) : (fmtX w1 H a b c ev).heap[k]? = w1.heap[k]? := by
  unfold fmtX
  rw [set_keep h1, set_keep h0, set_keep h0, set_keep h0, set_keep h2, set_keep h0, set_keep h0, set_keep h0]
theorem fmtX_below {w : World} (h : Below H w w1) : Below H w (fmtX w1 H a b c ev) := by
  unfold fmtX
  exact below_setR _ _ (below_setR _ _ (below_setR _ _ (below_setR _ _ (below_setR _ _ (below_setR _ _ (below_setR _ _ (below_setR _ _ h (Nat.le_refl _)) (Nat.le_refl _)) (Nat.le_refl _)) (by omega)) (Nat.le_refl _)) (Nat.le_refl _)) (Nat.le_refl _)) (by omega)
theorem fmtX_size : (fmtX w1 H a b c ev).heap.size = w1.heap.size := by unfold fmtX; simp
end
set_option maxRecDepth 8000 in
set_option maxHeartbeats 4000000 in
theorem Format_bad (n : Int) (w : World) (hL : Laid w) (h : n < 96 ∨ 4096 < n) :
    Calls Tryz.prog 8 #[.int .i64 n] w fun e w' => e = .returned (.tuple #[.agg #[.int .i64 0, .slice none 0 0, .slice none 0 0], .int .i64 20]) ∧ Below w.heap.size w w' := by
  have hb3 : Below w.heap.size w (((w.alloc (.cells #[.int .i64 0, .slice none 0 0, .slice none 0 0] 25)).alloc (.cells #[.int .i64 0] 26)).alloc (.cells #[.nilIface] 76)) := ((below_alloc w _).alloc (by simp) _).alloc (by simp; omega) _
  have hft := format_bad n (((w.alloc (.cells #[.int .i64 0, .slice none 0 0, .slice none 0 0] 25)).alloc (.cells #[.int .i64 0] 26)).alloc (.cells #[.nilIface] 76)) h
  have HG : Hid (ErrT w) := hL.err
  have hmf : ∀ (fn : Fn) (first cap : Array Value) (w : World), (Instr.makeFunc fn first cap).run Tryz.prog w = .ok (.func fn first cap) w := fun _ _ _ _ => rfl
  have HDK : Hid ((((w.alloc (.cells #[.int .i64 0, .slice none 0 0, .slice none 0 0] 25)).alloc (.cells #[.int .i64 0] 26)).alloc (.cells #[.nilIface] 76)).heap[w.heap.size]? = some (.cells #[.int .i64 0, .slice none 0 0, .slice none 0 0] 25 (0, 0))) := by
    have h1 := heap_alloc_new w (.cells #[.int .i64 0, .slice none 0 0, .slice none 0 0] 25)
    have h2 := ((below_alloc (w.alloc (.cells #[.int .i64 0, .slice none 0 0, .slice none 0 0] 25)) (.cells #[.int .i64 0] 26)).block _ (by simp)).trans h1
    exact ((below_alloc ((w.alloc (.cells #[.int .i64 0, .slice none 0 0, .slice none 0 0] 25)).alloc (.cells #[.int .i64 0] 26)) (.cells #[.nilIface] 76)).block _ (by simp; omega)).trans h2
  clear hL h
  go_enter_defers Tryz.func8, Tryz.ntmps8
  go_wp2_with fail
  refine hft.mono ?_
  rintro e w1 ⟨ev, rfl, hfl, hbb⟩
  have HE : Hid (ErrV ev 20) := .inr ⟨by decide, hfl⟩
  obtain ⟨tx, vx, rfl⟩ := hfl.iface
  clear hfl
  have hs1 := hbb.size
  simp at hs1
  obtain ⟨ce, cr, fe, fr⟩ := vars2 (a := .int .i64 0) (b := .nilIface) (s := 26) (t := 76) (w.alloc (.cells #[.int .i64 0, .slice none 0 0, .slice none 0 0] 25)) w1 hbb
  simp only [heap_size_alloc] at ce cr fe fr
  obtain ⟨⟨d0, d1, d2⟩, g0, g1, g2⟩ := cells3f ((hbb.block _ (lt_heap HDK.out)).trans HDK.out)
  have HB : Hid (Below w.heap.size w w1) := hb3.trans (hbb.mono hb3.size)
  clear hft hb3 hbb
  go_wp2
  have g1 := fmtX_err (a := .int .i64 0) (b := .slice none 0 0) (c := .slice none 0 0) (ev := .iface tx vx) cr
  have g2 := fmtX_num (a := .int .i64 0) (b := .slice none 0 0) (c := .slice none 0 0) (ev := .iface tx vx) ce
  have g3 := fmtX_fr (a := .int .i64 0) (b := .slice none 0 0) (c := .slice none 0 0) (ev := .iface tx vx) fe
  have g4 := fmtX_cells (a := .int .i64 0) (b := .slice none 0 0) (c := .slice none 0 0) (ev := .iface tx vx) d0 d1 d2
  have hbW : Below w.heap.size w (fmtX w1 w.heap.size (.int .i64 0) (.slice none 0 0) (.slice none 0 0) (.iface tx vx)) := fmtX_below HB.out
  show bodyPostD _ _ _ _ _ (fmtX w1 w.heap.size (.int .i64 0) (.slice none 0 0) (.slice none 0 0) (.iface tx vx))
  generalize fmtX w1 w.heap.size (.int .i64 0) (.slice none 0 0) (.slice none 0 0) (.iface tx vx) = W at *
  refine leaves_cons (f := 29) (args := #[.pointer (some ⟨w.heap.size + 1 + 1, 0, none⟩), .pointer (some ⟨w.heap.size + 1, 0, none⟩)]) (by simp) (by simp [go_sem]) ?_
  refine (formatD4 ⟨w.heap.size + 1 + 1, 0, none⟩ ⟨w.heap.size + 1, 0, none⟩ (.iface tx vx) (.int .i64 0) 20 .returning _ (HG.out.below hbW) HE.out g1 g2 g3).mono ?_
  rintro e u' w'' ⟨rfl, rfl, w3, rfl, hb3⟩
  have hltE := World.block_lt_of_cell? _ _ g2
  have hltD := World.block_lt_of_cell? _ _ g4.1
  have k1 : (w3.setCell ⟨w.heap.size + 1, 0, none⟩ (.int .i64 20)).cell? ⟨w.heap.size + 1, 0, none⟩ = some (.int .i64 20) := World.cell?_setCell_same _ _ _ ((hb3.cell hltE).trans g2)
  have k2 : Below w.heap.size w (w3.setCell ⟨w.heap.size + 1, 0, none⟩ (.int .i64 20)) := below_setR _ _ (hbW.trans (hb3.mono hbW.size)) (by omega)
  have m0 : (w3.setCell ⟨w.heap.size + 1, 0, none⟩ (.int .i64 20)).cell? ⟨w.heap.size, 0, none⟩ = some (.int .i64 0) := (o1 _ _ (ab_ne (by omega))).trans ((hb3.cell hltD).trans g4.1)
  have m1 : (w3.setCell ⟨w.heap.size + 1, 0, none⟩ (.int .i64 20)).cell? ⟨w.heap.size, 1, none⟩ = some (.slice none 0 0) := (o1 _ _ (ab_ne (by omega))).trans ((hb3.cell (World.block_lt_of_cell? _ _ g4.2.1)).trans g4.2.1)
  have m2 : (w3.setCell ⟨w.heap.size + 1, 0, none⟩ (.int .i64 20)).cell? ⟨w.heap.size, 2, none⟩ = some (.slice none 0 0) := (o1 _ _ (ab_ne (by omega))).trans ((hb3.cell (World.block_lt_of_cell? _ _ g4.2.2)).trans g4.2.2)
  generalize w3.setCell ⟨w.heap.size + 1, 0, none⟩ (.int .i64 20) = w4 at *
  simp [Leaves, settle, results, Tryz.results8, go_sem, k1, m0, m1, m2]
  exact k2
end Go.Proofs.YtiakfdhbbkpfhaaGreatDoor
namespace Go.Proofs.YtiakfdhbbkpfhaaGreatDoor
open Go.RowKit Go.WideShapes Rm

theorem mountD (a b : Addr) (ev old : Value) (n : Int) (u : FrameMode) (w : World) (hg : ErrT w) (hv : ErrV ev n) (ha : w.cell? a = some ev) (hb : w.cell? b = some old) (hf : w.frozen? b = false) :
    CallsD Tryz.prog 32 #[.pointer (some a), .pointer (some b)] u w fun e u' w' => u' = u ∧ e = .returned (.tuple #[]) ∧ ∃ w1, w' = w1.setCell b (.int .i64 n) ∧ Below w.heap.size w w1 := by
  have hn := number_v ev n hv w hg
  have hlt := World.block_lt_of_cell? _ _ hb
  go_enter_d Tryz.func32, Tryz.ntmps32
  go_wp2_with fail
  refine hn.mono ?_
  rintro e w1 ⟨rfl, hb1⟩
  have hb2 : w1.cell? b = some old := (hb1.cell hlt).trans hb
  have hf2 : w1.frozen? b = false := (hb1.frozen hlt).trans hf
  go_wp2
  go_end0
  exact ⟨rfl, w1, rfl, hb1⟩
/-- What Mount answers. -/
def MountQ (w : World) (r : Option (DirV × Int)) (n : Int) (e : Ending) (w' : World) : Prop :=
  match r with
  | some (x, _) => ∃ ls lv, n = 0 ∧ ls.map Prod.fst = x.files ∧ e = .returned (.tuple #[.agg #[.int .i64 x.gen, lv], .int .i64 0]) ∧ FOwn w' w.heap.size lv ls ∧ Below w.heap.size w w'
  | none => e = .returned (.tuple #[.agg #[.int .i64 0, .slice none 0 0], .int .i64 n]) ∧ Below w.heap.size w w'
theorem mountQ_some {w w' : World} {r : Option (DirV × Int)} {n at_ : Int} {e : Ending} {x : DirV} {ls : FPs} {lv : Value} (hr : r = some (x, at_)) (hn : r ≠ none → n = 0) (hl : ls.map Prod.fst = x.files) (he : e = .returned (.tuple #[.agg #[.int .i64 x.gen, lv], .int .i64 0])) (hf : FOwn w' w.heap.size lv ls) (hb : Below w.heap.size w w') : MountQ w r n e w' := by
  have h0 := hn (by rw [hr]; simp)
  subst hr
  exact ⟨ls, lv, h0, hl, he, hf, hb⟩
theorem mountQ_none {w w' : World} {r : Option (DirV × Int)} {n : Int} {e : Ending} (hr : r = none) (he : e = .returned (.tuple #[.agg #[.int .i64 0, .slice none 0 0], .int .i64 n])) (hb : Below w.heap.size w w') : MountQ w r n e w' := by
  subst hr
  exact ⟨he, hb⟩
theorem mountP_bel {w w' : World} {r : Option (DirV × Int)} {n : Int} {e : Ending} (h : MountP w r n e w') : Below w.heap.size w w' := by
  rcases r with _ | ⟨x, at_⟩
  · obtain ⟨_, _, _, h⟩ := h
    exact h
  · obtain ⟨_, _, _, _, _, h⟩ := h
    exact h
theorem mountP_or {w w' : World} {r : Option (DirV × Int)} {n : Int} {e : Ending} (h : MountP w r n e w') : (∃ x at_ ls lv, r = some (x, at_) ∧ ls.map Prod.fst = x.files ∧ e = .returned (.tuple #[.agg #[.int .i64 x.gen, lv], .int .i64 at_, .nilIface]) ∧ FOwn w' w.heap.size lv ls) ∨ (∃ ev, r = none ∧ e = .returned (.tuple #[.agg #[.int .i64 0, .slice none 0 0], .int .i64 0, ev]) ∧ Faults ev n) := by
  rcases r with _ | ⟨x, at_⟩
  · obtain ⟨ev, h1, h2, _⟩ := h
    exact .inr ⟨ev, rfl, h1, h2⟩
  · obtain ⟨ls, lv, h1, h2, h3, _⟩ := h
    exact .inl ⟨x, at_, ls, lv, rfl, h1, h2, h3⟩
set_option maxRecDepth 8000 in
set_option maxHeartbeats 4000000 in
theorem Mount_any (v : Value) (count : Int) (data : List Nat) (ws : Puts) (w : World) (hL : Laid w) (hd : DiskIn w v count data ws) (r : Option (DirV × Int)) (n : Int) (hm : MountIs count data ws r n) :
    Calls Tryz.prog 9 #[v] w fun e w' => MountQ w r n e w' := by
  obtain ⟨p, c, q, m, rfl, _⟩ := hd.parts
  obtain ⟨dl, hdl⟩ : ∃ k, data.length = k := ⟨_, rfl⟩
  obtain ⟨wl, hwl⟩ : ∃ k, ws.length = k := ⟨_, rfl⟩
  rw [hdl, hwl] at hd ⊢
  obtain ⟨w0, hw0⟩ : ∃ w0, w.alloc (.cells #[.int .i64 count, .slice p dl c, .slice q wl m] 25) = w0 := ⟨_, rfl⟩
  have HB0 : Hid (Below w.heap.size w w0) := by show Below _ _ _; rw [← hw0]; exact below_alloc _ _
  have HX0 : Hid (w0.heap[w.heap.size]? = some (.cells #[.int .i64 count, .slice p dl c, .slice q wl m] 25 (0, 0))) := by show _ = _; rw [← hw0]; exact heap_alloc_new _ _
  have hb3 : Below w0.heap.size w0 (((w0.alloc (.cells #[.int .i64 0, .slice none 0 0] 31)).alloc (.cells #[.int .i64 0] 26)).alloc (.cells #[.nilIface] 76)) := ((below_alloc w0 _).alloc (by simp) _).alloc (by simp; omega) _
  have hrd := mount_any _ count data ws (((w0.alloc (.cells #[.int .i64 0, .slice none 0 0] 31)).alloc (.cells #[.int .i64 0] 26)).alloc (.cells #[.nilIface] 76)) (hL.below (below_bt HB0.out hb3)) (hd.below (below_bt HB0.out hb3)) r n hm
  have HG : Hid (ErrT w0) := (hL.below HB0.out).err
  have HNZ : Hid (r = none → n ≠ 0) := fun h => by subst h; rcases mountIs_none hm with h | h <;> omega
  have HN0 : Hid (r ≠ none → n = 0) := fun h => by
    rcases r with _ | ⟨x, s⟩
    · exact absurd rfl h
    · exact (mountIs_some hm).2.2.1
  obtain ⟨dc0, dc1, dc2⟩ := three_cells ((hb3.block _ (lt_heap HX0.out)).trans HX0.out)
  have hmf : ∀ (fn : Fn) (first cap : Array Value) (w : World), (Instr.makeFunc fn first cap).run Tryz.prog w = .ok (.func fn first cap) w := fun _ _ _ _ => rfl
  clear hL hd hm hdl hwl
  go_enter_defers Tryz.func9, Tryz.ntmps9
  go_upto_region 1 with fail
  (try rw [hw0])
  clear hw0
  go_wp2_with fail
  refine hrd.mono ?_
  rintro e w1 hpost
  clear dc0 dc1 dc2
  have hbb : Below (((w0.alloc (.cells #[.int .i64 0, .slice none 0 0] 31)).alloc (.cells #[.int .i64 0] 26)).alloc (.cells #[.nilIface] 76)).heap.size (((w0.alloc (.cells #[.int .i64 0, .slice none 0 0] 31)).alloc (.cells #[.int .i64 0] 26)).alloc (.cells #[.nilIface] 76)) w1 := by
    exact mountP_bel hpost
  have hs1 := hbb.size
  simp at hs1
  obtain ⟨cE, cA, fE, fA⟩ := vars2 (a := .int .i64 0) (b := .nilIface) (s := 26) (t := 76) (w0.alloc (.cells #[.int .i64 0, .slice none 0 0] 31)) w1 hbb
  simp only [heap_size_alloc] at cE cA fE fA
  have hbx : Below (w0.heap.size + 1) (w0.alloc (.cells #[.int .i64 0, .slice none 0 0] 31)) w1 := (((Below.refl _ _).alloc (by simp) _).alloc (by simp) _).trans (hbb.mono (by simp))
  obtain ⟨c0, c1⟩ := box2 hbx
  obtain ⟨f0, f1⟩ := box2f hbx
  have HB : Hid (Below w0.heap.size w0 w1) := box_below hbx
  clear hbb hbx hrd hb3
  have hpost2 := mountP_or hpost
  clear hpost
  rcases hpost2 with ⟨x, at_, ls, lv, hd, hls, rfl, hfo⟩ | ⟨ev, hno, rfl, hfl⟩
  · have HDI : Hid (r = some (x, at_)) := hd
    have HLS : Hid (ls.map Prod.fst = x.files) := hls
    have hfo' : FOwn w1 (w0.heap.size + 1 + 1 + 1) lv ls := by simpa using hfo
    have HFO : Hid (FOwn w1 (w0.heap.size + 1 + 1 + 1) lv ls) := hfo'
    obtain ⟨ql, ml, rfl, _⟩ := hfo.form
    have HEV : Hid (ErrV .nilIface 0) := .inl ⟨rfl, rfl⟩
    clear hd hls hfo hfo'
    go_wp2
    have g1 := rdA (g := .int .i64 x.gen) (lv := .slice ql ls.length ml) (ev := .nilIface) (D := w0.heap.size) (E := w0.heap.size + 1) (A := w0.heap.size + 1 + 1) (by omega) (by omega) cA
    have g2 := rdE (g := .int .i64 x.gen) (lv := .slice ql ls.length ml) (ev := .nilIface) (D := w0.heap.size) (E := w0.heap.size + 1) (A := w0.heap.size + 1 + 1) (by omega) (by omega) cE
    have g3 := rdF (g := .int .i64 x.gen) (lv := .slice ql ls.length ml) (ev := .nilIface) (D := w0.heap.size) (E := w0.heap.size + 1) (A := w0.heap.size + 1 + 1) fE
    have g4 := rd0 (g := .int .i64 x.gen) (lv := .slice ql ls.length ml) (ev := .nilIface) (D := w0.heap.size) (E := w0.heap.size + 1) (A := w0.heap.size + 1 + 1) (by omega) (by omega) c0
    have g5 := rd1 (g := .int .i64 x.gen) (lv := .slice ql ls.length ml) (ev := .nilIface) (D := w0.heap.size) (E := w0.heap.size + 1) (A := w0.heap.size + 1 + 1) (by omega) (by omega) c1
    have g6 := fun k h1 h2 h3 => rdH (w1 := w1) (g := .int .i64 x.gen) (lv := .slice ql ls.length ml) (ev := .nilIface) (D := w0.heap.size) (E := w0.heap.size + 1) (A := w0.heap.size + 1 + 1) (k := k) h1 h2 h3
    have g7 := rdS (w1 := w1) (g := .int .i64 x.gen) (lv := .slice ql ls.length ml) (ev := .nilIface) (D := w0.heap.size) (E := w0.heap.size + 1) (A := w0.heap.size + 1 + 1)
    have hbW := rdB (g := .int .i64 x.gen) (lv := .slice ql ls.length ml) (ev := .nilIface) (D := w0.heap.size) (E := w0.heap.size + 1) (A := w0.heap.size + 1 + 1) HB.out (by omega) (by omega) (by omega)
    generalize (((((w1.setCell ⟨w0.heap.size, 0, none⟩ (.int .i64 x.gen)).setCell ⟨w0.heap.size, 1, none⟩ (.slice ql ls.length ml)).setCell ⟨w0.heap.size + 1 + 1, 0, none⟩ (.nilIface)).setCell ⟨w0.heap.size, 0, none⟩ (.int .i64 x.gen)).setCell ⟨w0.heap.size, 1, none⟩ (.slice ql ls.length ml)).setCell ⟨w0.heap.size + 1, 0, none⟩ (.int .i64 0) = W at *
    refine leaves_cons (f := 32) (args := #[.pointer (some ⟨w0.heap.size + 1 + 1, 0, none⟩), .pointer (some ⟨w0.heap.size + 1, 0, none⟩)]) (by simp) (by simp [go_sem]) ?_
    refine (mountD ⟨w0.heap.size + 1 + 1, 0, none⟩ ⟨w0.heap.size + 1, 0, none⟩ (.nilIface) (.int .i64 0) 0 .returning _ (HG.out.below hbW) HEV.out g1 g2 g3).mono ?_
    rintro e u' w'' ⟨rfl, rfl, w3, rfl, hb3⟩
    have hlE := World.block_lt_of_cell? _ _ g2
    have hlD := World.block_lt_of_cell? _ _ g4
    have k1 : (w3.setCell ⟨w0.heap.size + 1, 0, none⟩ (.int .i64 0)).cell? ⟨w0.heap.size + 1, 0, none⟩ = some (.int .i64 0) := World.cell?_setCell_same _ _ _ ((hb3.cell hlE).trans g2)
    have k4 : (w3.setCell ⟨w0.heap.size + 1, 0, none⟩ (.int .i64 0)).cell? ⟨w0.heap.size, 0, none⟩ = some (.int .i64 x.gen) := by rw [World.cell?_setCell_other _ _ _ _ (by simp)]; exact (hb3.cell hlD).trans g4
    have k5 : (w3.setCell ⟨w0.heap.size + 1, 0, none⟩ (.int .i64 0)).cell? ⟨w0.heap.size, 1, none⟩ = some (.slice ql ls.length ml) := by rw [World.cell?_setCell_other _ _ _ _ (by simp)]; exact (hb3.cell (World.block_lt_of_cell? _ _ g5)).trans g5
    have k2 : Below w0.heap.size w0 (w3.setCell ⟨w0.heap.size + 1, 0, none⟩ (.int .i64 0)) := (hbW.trans (hb3.mono hbW.size)).setCell (by simp) _
    have k6 : ∀ k, w0.heap.size + 1 + 1 + 1 ≤ k → k < w1.heap.size → (w3.setCell ⟨w0.heap.size + 1, 0, none⟩ (.int .i64 0)).heap[k]? = w1.heap[k]? := fun k hk hk2 => by
      rw [Below.heap_setCell _ _ _ _ (by simp; omega), hb3.block k (by omega), g6 k (by omega) (by omega) (by omega)]
    generalize w3.setCell ⟨w0.heap.size + 1, 0, none⟩ (.int .i64 0) = w4 at *
    simp [Leaves, settle, results_cells Tryz.results9, go_sem, k1, k4, k5]
    exact mountQ_some HDI.out HN0.out HLS.out rfl ((HFO.out.keepB k6).mono (by have := HB0.out.size; omega)) (below_bt HB0.out k2)
  · have HN : Hid (r = none) := hno
    have HEV : Hid (ErrV ev n) := .inr ⟨HNZ.out hno, hfl⟩
    obtain ⟨tx, vx, rfl⟩ := hfl.iface
    clear hno hfl
    go_wp2
    have g1 := rdA (g := .int .i64 0) (lv := .slice none 0 0) (ev := .iface tx vx) (D := w0.heap.size) (E := w0.heap.size + 1) (A := w0.heap.size + 1 + 1) (by omega) (by omega) cA
    have g2 := rdE (g := .int .i64 0) (lv := .slice none 0 0) (ev := .iface tx vx) (D := w0.heap.size) (E := w0.heap.size + 1) (A := w0.heap.size + 1 + 1) (by omega) (by omega) cE
    have g3 := rdF (g := .int .i64 0) (lv := .slice none 0 0) (ev := .iface tx vx) (D := w0.heap.size) (E := w0.heap.size + 1) (A := w0.heap.size + 1 + 1) fE
    have g4 := rd0 (g := .int .i64 0) (lv := .slice none 0 0) (ev := .iface tx vx) (D := w0.heap.size) (E := w0.heap.size + 1) (A := w0.heap.size + 1 + 1) (by omega) (by omega) c0
    have g5 := rd1 (g := .int .i64 0) (lv := .slice none 0 0) (ev := .iface tx vx) (D := w0.heap.size) (E := w0.heap.size + 1) (A := w0.heap.size + 1 + 1) (by omega) (by omega) c1
    have g6 := fun k h1 h2 h3 => rdH (w1 := w1) (g := .int .i64 0) (lv := .slice none 0 0) (ev := .iface tx vx) (D := w0.heap.size) (E := w0.heap.size + 1) (A := w0.heap.size + 1 + 1) (k := k) h1 h2 h3
    have g7 := rdS (w1 := w1) (g := .int .i64 0) (lv := .slice none 0 0) (ev := .iface tx vx) (D := w0.heap.size) (E := w0.heap.size + 1) (A := w0.heap.size + 1 + 1)
    have hbW := rdB (g := .int .i64 0) (lv := .slice none 0 0) (ev := .iface tx vx) (D := w0.heap.size) (E := w0.heap.size + 1) (A := w0.heap.size + 1 + 1) HB.out (by omega) (by omega) (by omega)
    generalize (((((w1.setCell ⟨w0.heap.size, 0, none⟩ (.int .i64 0)).setCell ⟨w0.heap.size, 1, none⟩ (.slice none 0 0)).setCell ⟨w0.heap.size + 1 + 1, 0, none⟩ (.iface tx vx)).setCell ⟨w0.heap.size, 0, none⟩ (.int .i64 0)).setCell ⟨w0.heap.size, 1, none⟩ (.slice none 0 0)).setCell ⟨w0.heap.size + 1, 0, none⟩ (.int .i64 0) = W at *
    refine leaves_cons (f := 32) (args := #[.pointer (some ⟨w0.heap.size + 1 + 1, 0, none⟩), .pointer (some ⟨w0.heap.size + 1, 0, none⟩)]) (by simp) (by simp [go_sem]) ?_
    refine (mountD ⟨w0.heap.size + 1 + 1, 0, none⟩ ⟨w0.heap.size + 1, 0, none⟩ (.iface tx vx) (.int .i64 0) n .returning _ (HG.out.below hbW) HEV.out g1 g2 g3).mono ?_
    rintro e u' w'' ⟨rfl, rfl, w3, rfl, hb3⟩
    have hlE := World.block_lt_of_cell? _ _ g2
    have hlD := World.block_lt_of_cell? _ _ g4
    have k1 : (w3.setCell ⟨w0.heap.size + 1, 0, none⟩ (.int .i64 n)).cell? ⟨w0.heap.size + 1, 0, none⟩ = some (.int .i64 n) := World.cell?_setCell_same _ _ _ ((hb3.cell hlE).trans g2)
    have k4 : (w3.setCell ⟨w0.heap.size + 1, 0, none⟩ (.int .i64 n)).cell? ⟨w0.heap.size, 0, none⟩ = some (.int .i64 0) := by rw [World.cell?_setCell_other _ _ _ _ (by simp)]; exact (hb3.cell hlD).trans g4
    have k5 : (w3.setCell ⟨w0.heap.size + 1, 0, none⟩ (.int .i64 n)).cell? ⟨w0.heap.size, 1, none⟩ = some (.slice none 0 0) := by rw [World.cell?_setCell_other _ _ _ _ (by simp)]; exact (hb3.cell (World.block_lt_of_cell? _ _ g5)).trans g5
    have k2 : Below w0.heap.size w0 (w3.setCell ⟨w0.heap.size + 1, 0, none⟩ (.int .i64 n)) := (hbW.trans (hb3.mono hbW.size)).setCell (by simp) _
    have k6 : ∀ k, w0.heap.size + 1 + 1 + 1 ≤ k → k < w1.heap.size → (w3.setCell ⟨w0.heap.size + 1, 0, none⟩ (.int .i64 n)).heap[k]? = w1.heap[k]? := fun k hk hk2 => by
      rw [Below.heap_setCell _ _ _ _ (by simp; omega), hb3.block k (by omega), g6 k (by omega) (by omega) (by omega)]
    generalize w3.setCell ⟨w0.heap.size + 1, 0, none⟩ (.int .i64 n) = w4 at *
    simp [Leaves, settle, results_cells Tryz.results9, go_sem, k1, k4, k5]
    exact mountQ_none HN.out rfl (below_bt HB0.out k2)
end Go.Proofs.YtiakfdhbbkpfhaaGreatDoor
namespace Go.Proofs.YtiakfdhbbkpfhaaGreatDoor
open Go.RowKit Go.WideShapes Rm

/-- A disk in a box of the call's own. -/
structure Boxed (w0 w : World) (B : Nat) (count : Int) (p : Option Addr) (D c : Nat) (q : Option Addr) (z m : Nat) (data : List Nat) (ws : Puts) : Prop where
  box : w.heap[B]? = some (.cells #[.int .i64 count, .slice p D c, .slice q z m] 25 (0, 0))
  disk : DiskIn w (.agg #[.int .i64 count, .slice p D c, .slice q z m]) count data ws
  below : Below w0.heap.size w0 w
def zd : Array Value := #[.int .i64 0, .slice none 0 0, .slice none 0 0]
theorem boxz3 (w1 : World) {W w2 : World} (h : Below W.heap.size W w2) (hW : W.heap[w1.heap.size]? = some (.cells zd 25 (0, 0))) :
    Hid (w2.heap[w1.heap.size]? = some (.cells zd 25 (0, 0))) ∧ w2.cell? ⟨w1.heap.size, 0, none⟩ = some (.int .i64 0) ∧ w2.cell? ⟨w1.heap.size, 1, none⟩ = some (.slice none 0 0) ∧ w2.cell? ⟨w1.heap.size, 2, none⟩ = some (.slice none 0 0) ∧ w2.frozen? ⟨w1.heap.size, 0, none⟩ = false ∧ w2.frozen? ⟨w1.heap.size, 1, none⟩ = false ∧ w2.frozen? ⟨w1.heap.size, 2, none⟩ = false := by
  have hh := (h.block _ (lt_heap hW)).trans hW
  exact ⟨hh, cell_of_row _ _ 0 _ _ _ hh, cell_of_row _ _ 1 _ _ _ hh, cell_of_row _ _ 2 _ _ _ hh, frozen_of_row _ _ _ _ _ hh, frozen_of_row _ _ _ _ _ hh, frozen_of_row _ _ _ _ _ hh⟩
/-- The disk that Do answered, laid down. -/
theorem boxed_behind {w1 w2 : World} {count : Int} {p q : Option Addr} {D c z m base : Nat} {data : List Nat} {ws : Puts} (hf : DiskF base w2 (.agg #[.int .i64 count, .slice p D c, .slice q z m]) count data ws) (hb : Below w1.heap.size w1 w2) :
    Boxed w1 (w2.alloc (.cells #[.int .i64 count, .slice p D c, .slice q z m] 25)) w2.heap.size count p D c q z m data ws :=
  ⟨heap_alloc_new _ _, hf.below (below_alloc _ _), below_bt hb (below_alloc _ _)⟩
theorem boxed_ahead {w1 w2 : World} {count : Int} {p q : Option Addr} {D c z m base : Nat} {data : List Nat} {ws : Puts} (hf : DiskF base w2 (.agg #[.int .i64 count, .slice p D c, .slice q z m]) count data ws) (hlt : w1.heap.size < base) (hb : Below w1.heap.size w1 w2) (hz : w2.heap[w1.heap.size]? = some (.cells zd 25 (0, 0))) :
    Boxed w1 (((w2.setCell ⟨w1.heap.size, 0, none⟩ (.int .i64 count)).setCell ⟨w1.heap.size, 1, none⟩ (.slice p D c)).setCell ⟨w1.heap.size, 2, none⟩ (.slice q z m)) w1.heap.size count p D c q z m data ws :=
  ⟨set3_same w2 w1.heap.size _ _ _ _ _ _ _ hz, hf.set3 hlt _ _ _, set3_below hb (Nat.le_refl _) _ _ _⟩
theorem Boxed.drew {w0 w : World} {B : Nat} {count : Int} {p q : Option Addr} {D c z m : Nat} {data : List Nat} {ws : Puts} (h : Boxed w0 w B count p D c q z m data ws) : Boxed w0 w.drew B count p D c q z m data ws :=
  ⟨h.box, h.disk.below (by exact (Below.refl _ _).drew), h.below.drew⟩
end Go.Proofs.YtiakfdhbbkpfhaaGreatDoor
