/-
  A disk's directory is there or is not; what the statements call: large; bytes of files.
-/
import Derived.Test.YtiakfdhbbkpfhaaGreatDoorJ29
import Derived.Test.YtiakfdhbbkpfhaaGreatDoorJ28
import Derived.Test.YtiakfdhbbkpfhaaGreatDoorJ22
namespace Go.Proofs.YtiakfdhbbkpfhaaGreatDoor
open Go.RowKit Go.WideShapes Rm

def textL (k : Nat) : List Nat := (List.range k).map fun i => 97 + i % 7
def textK (n k : Nat) : List Nat := textL k ++ List.replicate (n - k) 0
theorem textK_len {n k : Nat} (h : k ≤ n) : (textK n k).length = n := by simp [textK, textL]; omega
theorem textL_bytes (k : Nat) : ∀ c ∈ textL k, c < 256 := by
  intro c hc
  obtain ⟨i, _, rfl⟩ := List.mem_map.1 hc
  omega
theorem textL_len (k : Nat) : (textL k).length = k := by simp [textL]
theorem textK_step {n k : Nat} (h : k < n) : (textK n k).set k (97 + k % 7) = textK n (k + 1) := by
  unfold textK
  rw [List.set_append_right _ _ (by rw [textL_len]; omega)]
  rw [textL_len, Nat.sub_self, show n - k = (n - (k + 1)) + 1 by omega, List.replicate_succ, List.set_cons_zero]
  unfold textL
  rw [List.range_succ, List.map_append]
  simp
def textS (n : Nat) : ByteArray := strOf (textL n)
theorem textS_size (n : Nat) : (textS n).size = n := by unfold textS; rw [strOf_size, textL_len]
theorem textS_nums (n : Nat) : numsOf (textS n) = textL n := by
  have h := (strOf_eq (numsOf_lt (textS n)) (textL_bytes n)).1 (by rw [strOf_nums]; rfl)
  exact h
set_option maxRecDepth 100000 in
set_option maxHeartbeats 1000000 in
theorem text_t (n : Nat) (w : World) (hn : n ≤ 5000) :
    Calls Tryz.prog 14 #[.int .i64 (n : Int)] w fun e w' => e = .returned (.string (textS n)) ∧ Below w.heap.size w w' := by
  obtain ⟨i0, hi, hz0, hz1, hz2⟩ := info_parts info_u8
  have hnI : (n : Int) ≤ 5000 := by omega
  have HN : Hid (n ≤ 5000) := hn
  clear hn
  go_enter Tryz.func14, Tryz.ntmps14
  go_wp2_with (at_make; refine wpList_make_full _ rfl _ _ 22 rfl w.heap.size 5 i0 (.int .u8 0) 1 Tryz.underlying22 hi hz0 hz1 .i64 .i64 _ _ n rfl rfl rfl rfl (by rw [hz2]; have := HN.out; omega) (by have := HN.out; unfold maxLen; omega) (Nat.le_refl _) ?_)
  intro w1 hown hgrow
  have hrow := row_full hown
  have hb1 : Below w.heap.size w w1 := (Below.refl _ _).grown hgrow (Nat.le_refl _) (fun k hk => by cases hk)
  have HR : Hid (w1.heap[w.heap.size]? = some (.cells (Bs (textK n 0)).toArray 5 (0, 0))) := by
    show _ = _
    rw [show textK n 0 = List.replicate n 0 from by simp [textK, textL]]
    rw [zeros_made] at hrow
    exact hrow
  clear hown hgrow hrow
  go_wp2
  go_loopw [4] (fun i wr => ∃ k : Nat, k ≤ n ∧ i = .int .i64 k ∧ Hid (wr.heap[w.heap.size]? = some (.cells (Bs (textK n k)).toArray 5 (0, 0))) ∧ Below w.heap.size w wr) (fun i _ => n - (intOf i).toNat)
  case atStart => exact ⟨0, by omega, rfl, HR, hb1⟩
  case round =>
    obtain ⟨k, hk, rfl, HK, hbk⟩ := hrel
    have HB : Hid (Below w.heap.size w wr) := hbk
    by_cases hkl : k < n
    · have hkI : (k : Int) < (n : Int) := by omega
      have k0 : (0 : Int) ≤ (k : Int) := by omega
      have HKL : Hid (k < n) := hkl
      have hc := cell_of_row wr w.heap.size k _ _ _ HK.out
      rw [show (Bs (textK n k)).toArray[k]? = some (.int .u8 ((textK n k).getD k 0 : Nat)) from by simp [Bs, List.getD, List.getElem?_eq_getElem (show k < (textK n k).length by rw [textK_len hk]; exact hkl)]] at hc
      have hf := frozen_of_row wr w.heap.size k _ _ HK.out
      obtain ⟨x, hx⟩ : ∃ x : Nat, 97 + k % 7 = x := ⟨_, rfl⟩
      have HS : Hid ((wr.setCell ⟨w.heap.size, k, none⟩ (.int .u8 (x : Int))).heap[w.heap.size]? = some (.cells (Bs (textK n (k + 1))).toArray 5 (0, 0))) := by
        show _ = _
        rw [heap_setCell_same wr _ k _ _ _ HK.out, Bs_set, ← hx, textK_step hkl]
      have hxI : (97 : Int) + (k : Int).tmod 7 = (x : Int) := by have := Int.tmod_eq_emod_of_nonneg k0 (b := 7); omega
      have hxI2 : (97 : Int) + (k : Int) % 7 = (x : Int) := by omega
      have hx1 : (x : Int) ≤ 103 := by omega
      have hx0 : (97 : Int) ≤ (x : Int) := by omega
      have hwx : IntKind.u8.wrap (x : Int) = (x : Int) := by rw [IntKind.wrap_u8]; omega
      generalize (textK n k).getD k 0 = cc at *
      clear hk hkl hbk hx
      go_wp2
      go_roundw
      case rel => exact ⟨k + 1, HKL.out, by go_num, HS, HB.out.setCell (Nat.le_refl _) _⟩
      case measure => have := HKL.out; simp [intOf]; omega
    · have hkI : (n : Int) ≤ (k : Int) := by omega
      obtain rfl : k = n := by omega
      have HE : Hid (textK k k = textL k) := by show _ = _; simp [textK]
      have hcv : (convert 22 9 (.slice (some ⟨w.heap.size, 0, none⟩) k k)).run Tryz.prog wr = .ok (.string (strOf (textL k))) wr := by
        have h := bin_row (w := wr) (g := w.heap.size) (xs := textL k) (by have h := HK.out; rw [HE.out] at h; exact h) (textL_bytes k)
        exact conv_at h (textL_len k).symm
      clear hk hkl hbk
      go_wp2
      go_ret
      exact ⟨rfl, HB.out⟩
theorem put_t (name val : ByteArray) (w : World) : Calls Tryz.prog 13 #[.string name, .string val] w fun e w' => e = .returned (.agg #[.string name, .string val, .bool false]) ∧ Below w.heap.size w w' := by
  go_enter Tryz.func13, Tryz.ntmps13
  go_wp2
  (try simp only [Exit.inBlock, Exit.then])
  refine bodyPost_ret (v := .agg #[.string name, .string val, .bool false]) ?_ rfl ⟨rfl, ?_⟩
  · first
      | (rw [results_cell rfl]; go_simp)
      | (simp only [results, Tryz.results13]; go_simp)
  · exact below_alloc _ _
end Go.Proofs.YtiakfdhbbkpfhaaGreatDoor
namespace Go.Proofs.YtiakfdhbbkpfhaaGreatDoor
open Go.RowKit Go.WideShapes Rm

def toV (c : CV) : ChgV := ⟨c.key, numsOf c.val, c.gone⟩
theorem putting_of (l : List CV) : puttingN (l.map toV) = csOf (putsC l) := by
  unfold puttingN csOf putsC
  rw [List.filter_map, List.map_map]
  rfl
theorem vals_of (l : List CV) : (puttingN (l.map toV)).map Prod.snd = valsOf (putsC l) := by
  rw [putting_of]
  unfold csOf valsOf
  rw [List.map_map]
  rfl
theorem stay_of (old : List FileV) (l : List CV) : stayN old (l.map toV) = old.filter fun f => !namedC l f.name := by
  unfold stayN namedC
  refine List.filter_congr fun f _ => ?_
  rw [List.all_map]
  induction l with
  | nil => rfl
  | cons c l ih =>
    simp only [List.all_cons, List.any_cons, Bool.not_or, ih]
    congr 1
    by_cases hh : c.key = f.name <;> simp [toV, hh]
theorem fromC_zero {old : List FileV} {l : List CV} : ∀ {m k : Nat}, fromC old l m k = 0 → ∀ j, k ≤ j → j < k + m → oneC old l j = 0
  | 0, k, _, j, h1, h2 => by omega
  | m + 1, k, h, j, h1, h2 => by
    rw [fromC] at h
    split at h
    · rename_i h3
      exact absurd h h3
    · rename_i h3
      have h4 : oneC old l k = 0 := Classical.byContradiction h3
      rcases Nat.lt_or_ge k j with h5 | h5
      · exact fromC_zero h j (by omega) (by omega)
      · rw [show j = k by omega]; exact h4
theorem chg_each {old : List FileV} {l : List CV} (h : chgE old l = 0) {k : Nat} (hk : k < l.length) : isNameN (l.getD k zeroCV).key = true ∧ namedC (l.take k) (l.getD k zeroCV).key = false := by
  unfold chgE at h
  split at h
  · cases h
  · have h1 := fromC_zero h k (by omega) (by omega)
    unfold oneC at h1
    split at h1
    · cases h1
    · split at h1
      · cases h1
      · rename_i a b
        exact ⟨by simpa using a, by simpa using b⟩
theorem chg_pair {old : List FileV} {l : List CV} (h : chgE old l = 0) : (l.map toV).Pairwise fun c d => c.key ≠ d.key := by
  rw [List.pairwise_map, List.pairwise_iff_getElem]
  intro i j hi hj hij e
  have h1 := (chg_each h hj).2
  rw [named_hit (k := i) (by rw [List.length_take]; omega) ?_] at h1
  · cases h1
  · rw [List.getD_eq_getElem?_getD, List.getElem?_take_of_lt hij, List.getElem?_eq_getElem hi, List.getD_eq_getElem?_getD, List.getElem?_eq_getElem hj]
    exact e
/-- A turn that can be done: all that the mathematics asks. -/
structure TurnOk (count : Int) (data : List Nat) (ws : Puts) (l : List CV) (x y : DirV) (at_ other : Nat) (fs : List FileV) (A : Acts) : Prop where
  hao : (at_ = 0 ∧ other = 8) ∨ (at_ = 8 ∧ other = 0)
  ho : Okay count data ws
  hc : 96 ≤ count
  hsx : SlotR ltS count (slotK data ws at_ 8) (some x)
  hso : ∃ o, SlotR ltS count (slotK data ws other 8) o ∧ mountS at_ (some x) o = some (x, (at_ : Int))
  hy : IsDir ltS y (bytesN y)
  hxy : x.gen < y.gen
  hg : ∀ i, i < 8 → ((beg8 (nowN data ws ((other + i : Nat) : Int)) : Nat) : Int) ≠ y.gen
  hd : (l.map toV).Pairwise fun c d => c.key ≠ d.key
  hpl : placeN count (allPcs x.files) (puttingN (l.map toV)) = .ok fs
  hmem : ∀ f, f ∈ y.files ↔ f ∈ stayN x.files (l.map toV) ∨ f ∈ fs
  hA : A = turnA (filesA fs ((puttingN (l.map toV)).map Prod.snd)) other y
theorem mount_slot {count : Int} {data : List Nat} {ws : Puts} {x : DirV} {o : Nat} {n : Int} (ho : o = 0 ∨ o = 8) (h : MountIs count data ws (some (x, 8 - (o : Int))) n) : SlotR ltS count (slotK data ws (8 - o) 8) (some x) ∧ ∃ z, SlotR ltS count (slotK data ws o 8) z ∧ mountS (8 - o) (some x) z = some (x, ((8 - o : Nat) : Int)) := by
  rcases h with ⟨_, h, _⟩ | ⟨_, _, h, _⟩ | ⟨_, _, a, b, ha, hb, h, _⟩
  · cases h
  · cases h
  · rcases ho with rfl | rfl
    · have e : b = some x := by
        cases a with
        | none => cases b with
          | none => cases h
          | some y => simp [mountR] at h; rw [h]
        | some z => cases b with
          | none => simp [mountR] at h
          | some y =>
            simp only [mountR] at h
            split at h
            · simp only [Option.some.injEq, Prod.mk.injEq] at h; rw [h.1]
            · simp only [Option.some.injEq, Prod.mk.injEq] at h; exact absurd h.2 (by decide)
      subst e
      exact ⟨hb, a, ha, by show mountR a (some x) = _; rw [← h]; rfl⟩
    · have e : a = some x := by
        cases a with
        | none => cases b with
          | none => cases h
          | some y => simp [mountR] at h
        | some z => cases b with
          | none => simp [mountR] at h; rw [h]
          | some y =>
            simp only [mountR] at h
            split at h
            · simp only [Option.some.injEq, Prod.mk.injEq] at h; exact absurd h.2 (by decide)
            · simp only [Option.some.injEq, Prod.mk.injEq] at h; rw [h.1]
      subst e
      exact ⟨ha, b, hb, by show mountR (some x) b = _; rw [← h]; rfl⟩
theorem turnIs_ok {count : Int} {data : List Nat} {ws : Puts} {r : Option (DirV × Int)} {n : Int} {l : List CV} {A : Acts} (hm : MountIs count data ws r n) (h : TurnIs count data ws r n l 0 A) : ∃ (x y : DirV) (at_ other : Nat) (fs : List FileV), r = some (x, (at_ : Int)) ∧ TurnOk count data ws l x y at_ other fs A := by
  generalize hz : (0 : Int) = z at h
  cases h with
  | none h =>
    subst h
    rcases mountIs_none hm with h | h <;> omega
  | chg x at_ E h hE h0 => exact absurd hz.symm h0
  | many x at_ h hE hm' => cases hz
  | place x at_ E h hE hm' hp => exact absurd hz.symm (place_ne hp)
  | last x o P h ho hE hm' hp hG => cases hz
  | bad x o P ss G m b h ho hE hm' hp hG hG2 hpm hup hw hm0 => exact absurd hz.symm hm0
  | ok x o P ss G b F h ho hE hm' hp hG hG2 hpm hup hw hF =>
    subst h
    have hms := mount_slot ho hm
    have hsm := mountIs_some hm
    have hG' : G < 4611686018427387904 := by
      have h1 := genK_hi data ws o x.gen hsm.1.hi 8
      omega
    have hfr := next_fresh hG hG'
    cases hw with
    | ok h1 h2 =>
      refine ⟨x, ⟨G, ss⟩, 8 - o, o, P, ?_, ⟨by omega, hsm.2.2.2.2, hsm.2.2.2.1, hms.1, hms.2, ⟨h1, h2, rfl⟩, hfr.1, hfr.2, chg_pair hE, by rw [putting_of]; exact hp, fun f => ?_, ?_⟩⟩
      · have : ((8 - o : Nat) : Int) = 8 - (o : Int) := by omega
        rw [this]
      · rw [stay_of]
        show f ∈ ss ↔ _
        rw [← hpm.mem_iff, List.mem_append]
      · rw [vals_of, hF]
        rfl
def ltB (a b : ByteArray) : Bool := Op.bytesLess a.toList b.toList
theorem ltB_irr (a : ByteArray) : ltB a a = false := bl_irrefl _
theorem ltB_tr (a b c : ByteArray) (h1 : ltB a b = true) (h2 : ltB b c = true) : ltB a c = true := bl_trans _ _ _ h1 h2
theorem ba_list {a b : ByteArray} (h : a.toList = b.toList) : a = b := by
  rw [ByteArray.toList_eq, ByteArray.toList_eq] at h
  rcases a with ⟨a⟩; rcases b with ⟨b⟩
  rcases a with ⟨a⟩; rcases b with ⟨b⟩
  simp at h; rw [h]
theorem ltB_tot (a b : ByteArray) (h : a ≠ b) : ltB a b = true ∨ ltB b a = true := by
  cases h1 : ltB a b with
  | true => exact .inl rfl
  | false =>
    cases h2 : ltB b a with
    | true => exact .inr rfl
    | false => exact absurd (ba_list (bl_tri _ _ h1 h2)) h
theorem filesA_full : ∀ {fs : List FileV} {vs : List (List Nat)} {a : Bool × Int × List Nat}, a ∈ filesA fs vs → a.2.2.length = 128
  | f :: fs, v :: vs, a, h => by
    rw [filesA] at h
    rcases List.mem_append.1 h with h | h
    · obtain ⟨k, _, rfl⟩ := fileA_mem h
      exact partN_len v k
    · exact filesA_full h
  | [], _, a, h => by simp [filesA] at h
  | _ :: _, [], a, h => by simp [filesA] at h
/-- The acts can be done, where not too many writes wait; behind them no write waits, and the new directory counts. -/
theorem turn_result {count : Int} {data : List Nat} {ws : Puts} {l : List CV} {x y : DirV} {at_ other : Nat} {fs : List FileV} {A : Acts} (h : TurnOk count data ws l x y at_ other fs A) (hf : ws.length + A.length ≤ 4096) :
    ∃ D, doN count (data, ws) A = .ok (D, []) ∧ Okay count D [] ∧ MountIs count D [] (some (y, (other : Int))) 0 ∧ filesD D [] y = wantN ltB (filesD data ws x) (l.map toV) := by
  have hz : 80 ≤ count ∧ count ≤ 4096 := ⟨by have := h.hc; omega, h.ho.hi⟩
  have hgx := (errK_zero h.hsx.2).2.2
  obtain ⟨p1, p2, p3⟩ := place_facts hz hgx h.hpl
  have h80 : ∀ p ∈ allPcs fs, 80 ≤ p.1 := fun p hp => by obtain ⟨f, hf, hpf⟩ := List.mem_flatMap.1 hp; exact (p3 f hf).1 p hpf
  have hFA := filesA_acts (vs := (puttingN (l.map toV)).map Prod.snd) p1 h80
  obtain ⟨D, W, e⟩ := can_do (count := count) (B := A) (data := data) (ws := ws) (by
    intro a ha
    rw [h.hA] at ha
    rcases List.mem_append.1 ha with ha | ha
    · split at ha
      · cases ha
      · rcases List.mem_append.1 ha with ha | ha
        · obtain ⟨_, s, e1, e2, e3, _⟩ := hFA.each a ha
          exact .inr ⟨by omega, by omega, filesA_full ha⟩
        · rw [List.mem_singleton.1 ha]; exact .inl rfl
    · rcases List.mem_append.1 ha with ha | ha
      · obtain ⟨i, hi, rfl⟩ := List.mem_map.1 ha
        rw [List.mem_range] at hi
        have := h.hao
        have := h.hc
        exact .inr ⟨by simp only; omega, by simp only; omega, (sec_bytes h.hy hi).1⟩
      · rw [List.mem_singleton.1 ha]; exact .inl rfl) hf
  have e' := e
  rw [h.hA] at e'
  have hW := turn_sure e'
  subst hW
  have hdn := done_holds ltB_tot ltB_irr ltB_tr h.hao h.ho h.hc h.hsx h.hy h.hxy h.hd h.hpl h.hmem e'
  have hok : Okay count D [] := okay_do _ (s := (data, ws)) (s' := (D, [])) h.ho e
  refine ⟨D, e, hok, ?_, hdn.2.2.2⟩
  refine .inr (.inr ⟨hok, h.hc, ?_⟩)
  rcases h.hao with ⟨rfl, rfl⟩ | ⟨rfl, rfl⟩
  · exact ⟨some x, some y, hdn.1, hdn.2.1, hdn.2.2.1.symm, by simp⟩
  · exact ⟨some y, some x, hdn.2.1, hdn.1, hdn.2.2.1.symm, by simp⟩
end Go.Proofs.YtiakfdhbbkpfhaaGreatDoor
namespace Go.Proofs.YtiakfdhbbkpfhaaGreatDoor
open Go.RowKit Go.WideShapes Rm

theorem namesD (a b : Addr) (ev old : Value) (n : Int) (u : FrameMode) (w : World) (hg : ErrT w) (hv : ErrV ev n) (ha : w.cell? a = some ev) (hb : w.cell? b = some old) (hf : w.frozen? b = false) :
    CallsD Tryz.prog 93 #[.pointer (some a), .pointer (some b)] u w fun e u' w' => u' = u ∧ e = .returned (.tuple #[]) ∧ ∃ w1, w' = w1.setCell b (.int .i64 n) ∧ Below w.heap.size w w1 := by
  have hn := number_v ev n hv w hg
  have hlt := World.block_lt_of_cell? _ _ hb
  go_enter_d Tryz.func93, Tryz.ntmps93
  go_wp2_with fail
  refine hn.mono ?_
  rintro e w1 ⟨rfl, hb1⟩
  have hb2 : w1.cell? b = some old := (hb1.cell hlt).trans hb
  have hf2 : w1.frozen? b = false := (hb1.frozen hlt).trans hf
  go_wp2
  go_end0
  exact ⟨rfl, w1, rfl, hb1⟩
def Ts (l : List FileV) : List Value := l.map fun f => Value.string f.name
def namesN : Option (DirV × Int) → List FileV
  | some (x, _) => x.files
  | none => []
structure OnT (w0 : World) (v : Value) (l : List FileV) (wr : World) : Prop where
  own : wr.ownsRow w0.heap.size 9 1 v l.length (Ts l)
  bel : Below w0.heap.size w0 wr
theorem OnT.app {w0 wr w' : World} {v v' : Value} {l : List FileV} {f : FileV} (h : OnT w0 v l wr) (hg : wr.grownBy w' v.ownBlock) (ho : w'.ownsRow w0.heap.size 9 1 v' (l.length + 1) (Ts l ++ [.string f.name])) : OnT w0 v' (l ++ [f]) w' := by
  refine ⟨?_, h.bel.grown hg h.bel.size (fun k hk => (World.ownsRow.lt h.own k hk).1)⟩
  rw [List.length_append]
  unfold Ts at ho ⊢
  rw [List.map_append]
  exact ho
theorem OnT.next {w0 wr w' : World} {v : Value} {l : List FileV} (h : OnT w0 v l wr) (hb : Below wr.heap.size wr w') : OnT w0 v l w' := ⟨own_below h.own hb, below_bt h.bel hb⟩
theorem info9s : (Tryz.prog.info? 9).map (fun i => (i.zero, i.size, i.bytes)) = some (some (.string ⟨#[]⟩), 1, 16) := by kernel_rfl
theorem info_parts4 {P : Program} {t : TypeId} {z : Option Value} {s b : Nat} (h : (P.info? t).map (fun i => (i.zero, i.size, i.bytes)) = some (z, s, b)) : ∃ i, P.info? t = some i ∧ i.zero = z ∧ i.size = s ∧ i.bytes = b := by
  cases hi : P.info? t with
  | none => rw [hi] at h; cases h
  | some i => rw [hi] at h; simp at h; exact ⟨i, rfl, h.1, h.2.1, h.2.2⟩
theorem take_file {l : List FileV} {k : Nat} (h : k < l.length) : l.take (k + 1) = l.take k ++ [l.getD k zeroF] := by
  rw [List.take_succ_eq_append_getElem h, List.getD_eq_getElem?_getD, List.getElem?_eq_getElem h]; rfl
set_option maxRecDepth 8000 in
set_option maxHeartbeats 4000000 in
theorem Names_any (v : Value) (count : Int) (data : List Nat) (ws : Puts) (w : World) (hL : Laid w) (hd : DiskIn w v count data ws) (r : Option (DirV × Int)) (n : Int) (hm : MountIs count data ws r n) :
    Calls Tryz.prog 59 #[v] w fun e w' => (∃ lv, e = .returned (.tuple #[lv, .int .i64 n]) ∧ w'.ownsRow w.heap.size 9 1 lv (namesN r).length (Ts (namesN r))) ∧ Below w.heap.size w w' := by
  obtain ⟨p, c, q, m, rfl, _⟩ := hd.parts
  obtain ⟨i0, hi, hz0, hz1, hz2⟩ := info_parts4 info9s
  have HG : Hid (ErrT w) := hL.err
  have hmf : ∀ (fn : Fn) (first cap : Array Value) (w : World), (Instr.makeFunc fn first cap).run Tryz.prog w = .ok (.func fn first cap) w := fun _ _ _ _ => rfl
  have hb2 : Below w.heap.size w ((w.alloc (.cells #[.int .i64 count, .slice p data.length c, .slice q ws.length m] 25)).alloc (.cells #[.int .i64 0] 26)) := (below_alloc w _).alloc (by simp) _
  have HB2 : Hid (Below w.heap.size w ((w.alloc (.cells #[.int .i64 count, .slice p data.length c, .slice q ws.length m] 25)).alloc (.cells #[.int .i64 0] 26))) := hb2
  have HEB2 : Hid (((w.alloc (.cells #[.int .i64 count, .slice p data.length c, .slice q ws.length m] 25)).alloc (.cells #[.int .i64 0] 26)).heap[w.heap.size + 1]? = some (.cells #[.int .i64 0] 26 (0, 0))) := by
    have h := heap_alloc_new (w.alloc (.cells #[.int .i64 count, .slice p data.length c, .slice q ws.length m] 25)) (.cells #[.int .i64 0] 26)
    rw [heap_size_alloc] at h
    exact h
  have hmt := mount_any _ count data ws ((w.alloc (.cells #[.int .i64 count, .slice p data.length c, .slice q ws.length m] 25)).alloc (.cells #[.int .i64 0] 26)) (hL.below hb2) (hd.below hb2) r n hm
  have HMI : Hid (MountIs count data ws r n) := hm
  clear hL hd hm hb2
  rcases r with _ | ⟨x, at_⟩
  · go_enter_defers Tryz.func59, Tryz.ntmps59
    go_wp2_with fail
    refine hmt.mono ?_
    rintro e w1 ⟨ev, rfl, hfl, hb1⟩
    have HE : Hid (ErrV ev n) := .inr ⟨by rcases mountIs_none HMI.out with h | h <;> omega, hfl⟩
    obtain ⟨tx, vx, rfl⟩ := hfl.iface
    have bx1 := below_alloc w1 (.cells #[.int .i64 0, .slice none 0 0] 31)
    have bx2 := below_alloc (w1.alloc (.cells #[.int .i64 0, .slice none 0 0] 31)) (.cells #[.iface tx vx] 76)
    have hbb := below_bt hb1 (below_bt bx1 bx2)
    have HBW0 : Hid (Below w.heap.size w ((w1.alloc (.cells #[.int .i64 0, .slice none 0 0] 31)).alloc (.cells #[.iface tx vx] 76))) := below_bt HB2.out hbb
    have HEB0 : Hid (((w1.alloc (.cells #[.int .i64 0, .slice none 0 0] 31)).alloc (.cells #[.iface tx vx] 76)).heap[w.heap.size + 1]? = some (.cells #[.int .i64 0] 26 (0, 0))) := (hbb.block _ (lt_heap HEB2.out)).trans HEB2.out
    have HAB0 : Hid (((w1.alloc (.cells #[.int .i64 0, .slice none 0 0] 31)).alloc (.cells #[.iface tx vx] 76)).heap[w1.heap.size + 1]? = some (.cells #[.iface tx vx] 76 (0, 0))) := by
      have h := heap_alloc_new (w1.alloc (.cells #[.int .i64 0, .slice none 0 0] 31)) (.cells #[.iface tx vx] 76)
      rw [heap_size_alloc] at h
      exact h
    have HNE : Hid (w1.heap.size + 1 ≠ w.heap.size + 1) := by have h1 := hb1.size; have h2 := HB2.out.size; simp at h1; show _ ≠ _; omega
    clear hbb bx1 bx2 hb1 hmt hfl
    go_wp2
    generalize (w1.alloc (.cells #[.int .i64 0, .slice none 0 0] 31)).alloc (.cells #[.iface tx vx] 76) = w0 at *
    generalize w1.heap.size = gD at *
    obtain ⟨gA, hgA⟩ : ∃ gA, gD + 1 = gA := ⟨_, rfl⟩
    rw [hgA] at HAB0 HNE ⊢
    clear hgA
    go_loopw [2, 19] (fun s i wx => s = .slice none 0 0 ∧ i = .int .i64 0 ∧ wx = w0) (fun _ _ _ => 0)
    case atStart => exact ⟨rfl, rfl, rfl⟩
    case round =>
      obtain ⟨rfl, rfl, rfl⟩ := hrel
      have HON : Hid (OnT wr (.slice none 0 0) [] wr) := ⟨World.ownsRow_nil _ _ _ _, Below.refl _ _⟩
      have HBW : Hid (Below w.heap.size w wr) := HBW0.out
      have HEB : Hid (wr.heap[w.heap.size + 1]? = some (.cells #[.int .i64 0] 26 (0, 0))) := HEB0.out
      have HAB : Hid (wr.heap[gA]? = some (.cells #[.iface tx vx] 76 (0, 0))) := HAB0.out
      have hA : wr.cell? ⟨gA, 0, none⟩ = some (.iface tx vx) := Lib.cell_of_heap ((HON.out.bel.block _ (lt_heap HAB.out)).trans HAB.out) 0
      have hEb := (HON.out.bel.block _ (lt_heap HEB.out)).trans HEB.out
      have hE : wr.cell? ⟨w.heap.size + 1, 0, none⟩ = some (.int .i64 0) := Lib.cell_of_heap hEb 0
      have fE : wr.frozen? ⟨w.heap.size + 1, 0, none⟩ = false := by simp only [World.frozen?, hEb]; rfl
      go_wp2
      have g1 : (wr.setCell ⟨w.heap.size + 1, 0, none⟩ (.int .i64 0)).cell? ⟨gA, 0, none⟩ = some (.iface tx vx) := by rw [World.cell?_setCell_other _ _ _ _ (by intro h; cases h; exact absurd rfl HNE.out)]; exact hA
      have g2 : (wr.setCell ⟨w.heap.size + 1, 0, none⟩ (.int .i64 0)).cell? ⟨w.heap.size + 1, 0, none⟩ = some (.int .i64 0) := World.cell?_setCell_same _ _ _ hE
      have g3 : (wr.setCell ⟨w.heap.size + 1, 0, none⟩ (.int .i64 0)).frozen? ⟨w.heap.size + 1, 0, none⟩ = false := by simp [fE]
      have hbW : Below w.heap.size w (wr.setCell ⟨w.heap.size + 1, 0, none⟩ (.int .i64 0)) := (HBW.out.trans (HON.out.bel.mono HBW.out.size)).setCell (by simp) _
      have hoW := ownsRow_setCell_below HON.out.own (a := ⟨w.heap.size + 1, 0, none⟩) (by have := lt_heap HEB.out; simpa using this) (.int .i64 0)
      generalize wr.setCell ⟨w.heap.size + 1, 0, none⟩ (.int .i64 0) = W at *
      refine leaves_cons (f := 93) (args := #[.pointer (some ⟨gA, 0, none⟩), .pointer (some ⟨w.heap.size + 1, 0, none⟩)]) (by simp) (by simp [go_sem]) ?_
      refine (namesD ⟨gA, 0, none⟩ ⟨w.heap.size + 1, 0, none⟩ (.iface tx vx) (.int .i64 0) n .returning _ (HG.out.below hbW) HE.out g1 g2 g3).mono ?_
      rintro e u' w'' ⟨rfl, rfl, w3, rfl, hb3⟩
      have hltE := World.block_lt_of_cell? _ _ g2
      have k1 : (w3.setCell ⟨w.heap.size + 1, 0, none⟩ (.int .i64 n)).cell? ⟨w.heap.size + 1, 0, none⟩ = some (.int .i64 n) := World.cell?_setCell_same _ _ _ ((hb3.cell hltE).trans g2)
      have k2 : Below w.heap.size w (w3.setCell ⟨w.heap.size + 1, 0, none⟩ (.int .i64 n)) := (hbW.trans (hb3.mono hbW.size)).setCell (by simp) _
      have k3 := ownsRow_setCell_below (own_below hoW hb3) (a := ⟨w.heap.size + 1, 0, none⟩) (by have := lt_heap HEB.out; simpa using this) (.int .i64 n)
      generalize w3.setCell ⟨w.heap.size + 1, 0, none⟩ (.int .i64 n) = w4 at *
      simp [Leaves, settle, results, Tryz.results59, go_sem, k1]
      exact ⟨World.ownsRow_nil _ _ _ _, k2⟩
  · obtain ⟨hmay, _, hn0, _⟩ := mountIs_some HMI.out
    subst hn0
    have HMAY : Hid (May ltS x) := hmay
    clear hmay
    go_enter_defers Tryz.func59, Tryz.ntmps59
    go_wp2_with fail
    refine hmt.mono ?_
    rintro e w1 ⟨ls, lv, hls, rfl, hfo, hb1⟩
    have hfin := hfo.files HMAY.out hls
    obtain ⟨lq, lc, rfl, hfi, _, _, _⟩ := hfin.lies
    obtain ⟨L, hLn⟩ : ∃ L, x.files.length = L := ⟨_, rfl⟩
    have HLN : Hid (x.files.length = L) := hLn
    have hLI : (L : Int) ≤ 32 := by have := HMAY.out.many; omega
    rw [hLn]
    clear hLn
    have bx1 := below_alloc w1 (.cells #[.int .i64 x.gen, .slice lq L lc] 31)
    have bx2 := below_alloc (w1.alloc (.cells #[.int .i64 x.gen, .slice lq L lc] 31)) (.cells #[.nilIface] 76)
    have hbx := below_bt bx1 bx2
    have hbb := below_bt hb1 hbx
    have HBW0 : Hid (Below w.heap.size w ((w1.alloc (.cells #[.int .i64 x.gen, .slice lq L lc] 31)).alloc (.cells #[.nilIface] 76))) := below_bt HB2.out hbb
    have HEB0 : Hid (((w1.alloc (.cells #[.int .i64 x.gen, .slice lq L lc] 31)).alloc (.cells #[.nilIface] 76)).heap[w.heap.size + 1]? = some (.cells #[.int .i64 0] 26 (0, 0))) := (hbb.block _ (lt_heap HEB2.out)).trans HEB2.out
    have HAB0 : Hid (((w1.alloc (.cells #[.int .i64 x.gen, .slice lq L lc] 31)).alloc (.cells #[.nilIface] 76)).heap[w1.heap.size + 1]? = some (.cells #[.nilIface] 76 (0, 0))) := by
      have h := heap_alloc_new (w1.alloc (.cells #[.int .i64 x.gen, .slice lq L lc] 31)) (.cells #[.nilIface] 76)
      rw [heap_size_alloc] at h
      exact h
    have HFI : Hid (FilesIn ((w1.alloc (.cells #[.int .i64 x.gen, .slice lq L lc] 31)).alloc (.cells #[.nilIface] 76)) lq x.files) := by
      obtain ⟨q3, c3, e3, h3, _⟩ := (hfin.below hbx).lies
      obtain ⟨e4, _, e5⟩ := Value.slice.inj e3
      rw [← e4] at h3
      exact h3
    have HE : Hid (ErrV .nilIface 0) := .inl ⟨rfl, rfl⟩
    have HNE : Hid (w1.heap.size + 1 ≠ w.heap.size + 1) := by have h1 := hb1.size; have h2 := HB2.out.size; simp at h1; show _ ≠ _; omega
    clear hbb bx1 bx2 hbx hb1 hmt hls hfo hfin hfi
    go_wp2
    generalize (w1.alloc (.cells #[.int .i64 x.gen, .slice lq L lc] 31)).alloc (.cells #[.nilIface] 76) = w0 at *
    generalize w1.heap.size = gD at *
    obtain ⟨gA, hgA⟩ : ∃ gA, gD + 1 = gA := ⟨_, rfl⟩
    rw [hgA] at HAB0 HNE ⊢
    clear hgA
    go_loopw [2, 19] (fun s i wr => ∃ k : Nat, k ≤ L ∧ i = .int .i64 (k : Int) ∧ ∃ sq sc, s = .slice sq k sc ∧ OnT w0 (.slice sq k sc) (x.files.take k) wr) (fun _ i _ => L - (intOf i).toNat)
    case atStart => exact ⟨0, by omega, rfl, none, 0, rfl, ⟨World.ownsRow_nil _ _ _ _, Below.refl _ _⟩⟩
    case round =>
      obtain ⟨k, hk, rfl, sq, sc, rfl, hon⟩ := hrel
      have HON : Hid (OnT w0 (.slice sq k sc) (x.files.take k) wr) := hon
      clear hon
      by_cases hkl : k < L
      · have hkI : (k : Int) < (L : Int) := by omega
        have hkl2 : k < x.files.length := by have := HLN.out; omega
        obtain ⟨fb, fo, pv, hfe, y0, y1, y2, hpin⟩ := HFI.out.file hkl2
        subst hfe
        have hb := HON.out.bel
        have z0 := (hb.cell (World.block_lt_of_cell? _ _ y0)).trans y0
        have z1 := (hb.cell (World.block_lt_of_cell? _ _ y1)).trans y1
        have z2 := (hb.cell (World.block_lt_of_cell? _ _ y2)).trans y2
        obtain ⟨pq, pc, rfl, _⟩ := hpin.lies
        have HTK : Hid (x.files.take (k + 1) = x.files.take k ++ [x.files.getD k zeroF]) := take_file hkl2
        have HKN : Hid ((x.files.take k).length = k ∧ k ≤ 32) := ⟨by rw [List.length_take]; omega, by omega⟩
        obtain ⟨f, hf⟩ : ∃ f, x.files.getD k zeroF = f := ⟨_, rfl⟩
        rw [hf] at z0 z1 z2 HTK
        have HKL : Hid (k < L) := hkl
        clear hb y0 y1 y2 hkl hkl2 hk hpin hf
        obtain ⟨fnm, fsz, fpc⟩ := f
        simp only at z0 z1 z2
        obtain ⟨PL, hPL⟩ : ∃ PL, fpc.length = PL := ⟨_, rfl⟩
        rw [hPL] at z2
        clear hPL
        have bxa := below_alloc wr (.cells #[.string fnm, .int .i64 fsz, .slice pq PL pc] 51)
        have bxb := below_alloc (wr.alloc (.cells #[.string fnm, .int .i64 fsz, .slice pq PL pc] 51)) (.cells #[.string fnm] 9)
        have HOW : Hid (OnT w0 (.slice sq k sc) (x.files.take k) ((wr.alloc (.cells #[.string fnm, .int .i64 fsz, .slice pq PL pc] 51)).alloc (.cells #[.string fnm] 9))) := (HON.out.next bxa).next bxb
        have HCL : Hid (∀ j u, [Value.string fnm][j]? = some u → ((wr.alloc (.cells #[.string fnm, .int .i64 fsz, .slice pq PL pc] 51)).alloc (.cells #[.string fnm] 9)).cell? ((⟨wr.heap.size + 1, 0, none⟩ : Addr).add j) = some u) := fun j u hj => by
          have hh := heap_alloc_new (wr.alloc (.cells #[.string fnm, .int .i64 fsz, .slice pq PL pc] 51)) (.cells #[.string fnm] 9)
          rw [heap_size_alloc] at hh
          have e : (⟨wr.heap.size + 1, 0, none⟩ : Addr).add j = ⟨wr.heap.size + 1, j, none⟩ := by simp [Addr.add]; intro h; omega
          rw [e, Lib.cell_of_heap hh]
          simpa using hj
        have HOWN : Hid (((wr.alloc (.cells #[.string fnm, .int .i64 fsz, .slice pq PL pc] 51)).alloc (.cells #[.string fnm] 9)).ownsRow w0.heap.size 9 1 (.slice sq k sc) k (Ts (x.files.take k))) := by have h := HOW.out.own; rw [HKN.out.1] at h; exact h
        clear bxa bxb
        go_wp2_with (at_builtin; go_loud (refine wpList_append_own _ rfl _ _ 113 rfl w0.heap.size 9 i0 _ 1 16 Tryz.underlying113 hi hz0 hz1 hz2 rfl (by omega) (.slice sq k sc) _ _ rfl HOWN.out ⟨wr.heap.size + 1, 0, none⟩ 1 1 [.string fnm] rfl rfl HCL.out (by simp [Value.oneCell']) (by have := HKN.out.2; unfold maxLen; omega) (by have := HKN.out.2; omega) HOW.out.bel.size ?_); intro va ua hoa hga _; have hoa2 : ua.ownsRow w0.heap.size 9 1 va ((x.files.take k).length + 1) (Ts (x.files.take k) ++ [.string (⟨fnm, fsz, fpc⟩ : FileV).name]) := (by rw [HKN.out.1]; exact hoa); have HNX : Hid (OnT w0 va (x.files.take k ++ [⟨fnm, fsz, fpc⟩]) ua) := HOW.out.app hga hoa2; clear hoa hoa2 hga)
        go_roundw
        case rel =>
          have hnx := HNX.out
          rw [← HTK.out] at hnx
          obtain ⟨q5, c5, rfl, _, _, _⟩ := own_form hnx.own
          have hl : (x.files.take (k + 1)).length = k + 1 := by rw [List.length_take]; have := HKL.out; have := HLN.out; omega
          rw [hl] at hnx ⊢
          exact ⟨k + 1, HKL.out, by go_num, q5, c5, rfl, hnx⟩
        case measure => have := HKL.out; simp [intOf]; omega
      · have hkI : (L : Int) ≤ (k : Int) := by omega
        have HKE : Hid (x.files.take k = x.files ∧ k = x.files.length) := ⟨List.take_of_length_le (by have := HLN.out; omega), by have := HLN.out; omega⟩
        have HBW : Hid (Below w.heap.size w w0) := HBW0.out
        have HEB : Hid (w0.heap[w.heap.size + 1]? = some (.cells #[.int .i64 0] 26 (0, 0))) := HEB0.out
        have HAB : Hid (w0.heap[gA]? = some (.cells #[.nilIface] 76 (0, 0))) := HAB0.out
        clear hkl hk
        have hA : wr.cell? ⟨gA, 0, none⟩ = some .nilIface := Lib.cell_of_heap ((HON.out.bel.block _ (lt_heap HAB.out)).trans HAB.out) 0
        have hEb := (HON.out.bel.block _ (lt_heap HEB.out)).trans HEB.out
        have hE : wr.cell? ⟨w.heap.size + 1, 0, none⟩ = some (.int .i64 0) := Lib.cell_of_heap hEb 0
        have fE : wr.frozen? ⟨w.heap.size + 1, 0, none⟩ = false := by simp only [World.frozen?, hEb]; rfl
        go_wp2
        have g1 : (wr.setCell ⟨w.heap.size + 1, 0, none⟩ (.int .i64 0)).cell? ⟨gA, 0, none⟩ = some .nilIface := by rw [World.cell?_setCell_other _ _ _ _ (by intro h; cases h; exact absurd rfl HNE.out)]; exact hA
        have g2 : (wr.setCell ⟨w.heap.size + 1, 0, none⟩ (.int .i64 0)).cell? ⟨w.heap.size + 1, 0, none⟩ = some (.int .i64 0) := World.cell?_setCell_same _ _ _ hE
        have g3 : (wr.setCell ⟨w.heap.size + 1, 0, none⟩ (.int .i64 0)).frozen? ⟨w.heap.size + 1, 0, none⟩ = false := by simp [fE]
        have hbW : Below w.heap.size w (wr.setCell ⟨w.heap.size + 1, 0, none⟩ (.int .i64 0)) := (HBW.out.trans (HON.out.bel.mono HBW.out.size)).setCell (by simp) _
        have hoW := ownsRow_setCell_below HON.out.own (a := ⟨w.heap.size + 1, 0, none⟩) (by have := lt_heap HEB.out; simpa using this) (.int .i64 0)
        generalize wr.setCell ⟨w.heap.size + 1, 0, none⟩ (.int .i64 0) = W at *
        refine leaves_cons (f := 93) (args := #[.pointer (some ⟨gA, 0, none⟩), .pointer (some ⟨w.heap.size + 1, 0, none⟩)]) (by simp) (by simp [go_sem]) ?_
        refine (namesD ⟨gA, 0, none⟩ ⟨w.heap.size + 1, 0, none⟩ .nilIface (.int .i64 0) 0 .returning _ (HG.out.below hbW) HE.out g1 g2 g3).mono ?_
        rintro e u' w'' ⟨rfl, rfl, w3, rfl, hb3⟩
        have hltE := World.block_lt_of_cell? _ _ g2
        have k1 : (w3.setCell ⟨w.heap.size + 1, 0, none⟩ (.int .i64 0)).cell? ⟨w.heap.size + 1, 0, none⟩ = some (.int .i64 0) := World.cell?_setCell_same _ _ _ ((hb3.cell hltE).trans g2)
        have k2 : Below w.heap.size w (w3.setCell ⟨w.heap.size + 1, 0, none⟩ (.int .i64 0)) := (hbW.trans (hb3.mono hbW.size)).setCell (by simp) _
        have k3 := ownsRow_setCell_below (own_below hoW hb3) (a := ⟨w.heap.size + 1, 0, none⟩) (by have := lt_heap HEB.out; simpa using this) (.int .i64 0)
        generalize w3.setCell ⟨w.heap.size + 1, 0, none⟩ (.int .i64 0) = w4 at *
        simp [Leaves, settle, results, Tryz.results59, go_sem, k1]
        refine ⟨?_, k2⟩
        have k4 := own_mono k3 HBW.out.size
        rw [HKE.out.1] at k4
        exact k4
end Go.Proofs.YtiakfdhbbkpfhaaGreatDoor
namespace Go.Proofs.YtiakfdhbbkpfhaaGreatDoor
open Go.RowKit Go.WideShapes Rm

theorem slotR_ex (count : Int) (xs : List Nat) : ∃ a, SlotR ltS count xs a := by
  by_cases h : ∃ x, IsDir ltS x xs ∧ errK count (allPcs x.files) = 0
  · obtain ⟨x, hx⟩ := h
    exact ⟨some x, hx⟩
  · exact ⟨none, fun x hx he => h ⟨x, hx, he⟩⟩
theorem mountIs_ex (count : Int) (data : List Nat) (ws : Puts) : ∃ r n, MountIs count data ws r n := by
  by_cases ho : Okay count data ws
  · by_cases hc : count < 96
    · exact ⟨none, 40, .inr (.inl ⟨ho, hc, rfl, rfl⟩)⟩
    · obtain ⟨a, ha⟩ := slotR_ex count (slotK data ws 0 8)
      obtain ⟨b, hb⟩ := slotR_ex count (slotK data ws 8 8)
      exact ⟨mountR a b, _, .inr (.inr ⟨ho, by omega, a, b, ha, hb, rfl, rfl⟩)⟩
  · exact ⟨none, 20, .inl ⟨ho, rfl, rfl⟩⟩
/-- A row of texts of one's own, read. -/
theorem own_text {w : World} {base n : Nat} {q : Option Addr} {m c : Nat} {l : List FileV} (h : w.ownsRow base 9 1 (.slice q m c) n (Ts l)) (hn : n = l.length) {k : Nat} (hk : k < l.length) : ∃ g, q = some ⟨g, 0, none⟩ ∧ w.cell? ⟨g, k, none⟩ = some (.string (l.getD k zeroF).name) := by
  subst hn
  rcases h.2 with ⟨_, h0⟩ | ⟨g, cap, cur, hv, _, hg, h1, _, _, _⟩
  · omega
  · obtain ⟨rfl, rfl, rfl⟩ := Value.slice.inj hv
    refine ⟨g, rfl, ?_⟩
    rw [World.ownsRow.cellAt h k (by omega)]
    simp [Ts, List.getD, List.getElem?_eq_getElem hk]
/-- Is a disk larger than the statements go through? -/
def largeL (count : Int) (data : List Nat) (ws : Puts) : Prop := (40000 < data.length ∧ 0 < count ∧ count ≤ 4096) ∨ 600000 < data.length ∨ 300 < ws.length
instance (count : Int) (data : List Nat) (ws : Puts) : Decidable (largeL count data ws) := by unfold largeL; infer_instance
set_option maxRecDepth 20000 in
set_option maxHeartbeats 4000000 in
theorem large4_any (v : Value) (count : Int) (data : List Nat) (ws : Puts) (w : World) (hd : DiskIn w v count data ws) :
    Calls Tryz.prog 18 #[v] w fun e w' => e = .returned (.bool (decide (largeL count data ws))) ∧ Below w.heap.size w w' := by
  obtain ⟨p, c, q, m, rfl, _⟩ := hd.parts
  clear hd
  generalize hL : data.length = L at *
  generalize hM : ws.length = M at *
  have hl : largeL count data ws ↔ ((40000 < L ∧ 0 < count ∧ count ≤ 4096) ∨ 600000 < L ∨ 300 < M) := by unfold largeL; rw [hL, hM]
  have HL : Hid _ := hl
  clear hl hL hM
  have h : (40000 < L ∧ 0 < count ∧ count ≤ 4096) ∨ ((L ≤ 40000 ∨ (40000 < L ∧ count ≤ 0) ∨ (40000 < L ∧ 0 < count ∧ 4096 < count)) ∧ (600000 < L ∨ (L ≤ 600000 ∧ (300 < M ∨ M ≤ 300)))) := by omega
  rcases h with ⟨a1, a2, a3⟩ | ⟨a1 | ⟨a1, a2⟩ | ⟨a1, a2, a3⟩, b1 | ⟨b1, d1 | d1⟩⟩
  all_goals first | omega | skip
  all_goals
    obtain ⟨bb, HV⟩ : ∃ bb, Hid (decide (largeL count data ws) = bb) := ⟨_, rfl⟩
    have HW : Hid ((bb = true ∧ largeL count data ws) ∨ (bb = false ∧ ¬ largeL count data ws)) := by
      rw [← HV.out]
      by_cases h : largeL count data ws
      · exact .inl ⟨decide_eq_true h, h⟩
      · exact .inr ⟨decide_eq_false h, h⟩
    go_enter Tryz.func18, Tryz.ntmps18
    go_wp2
    go_ret
    refine ⟨?_, below_alloc _ _⟩
    rw [HV.out]
    rcases HW.out with ⟨rfl, h⟩ | ⟨rfl, h⟩ <;> rw [HL.out] at h <;> first | rfl | (exfalso; omega) | (simp; omega)
theorem nowK_mem {ws : Puts} {n : Int} {k : Nat} {xs : List Nat} (hk : k ≤ ws.length) (h : nowK ws n k = some xs) : ∃ y ∈ ws, y.2 = xs := by
  induction k with
  | zero => simp [nowK] at h
  | succ k ih =>
    unfold nowK at h
    split at h
    · rename_i hc
      simp only [Option.some.injEq] at h
      exact ⟨ws.getD k (0, []), by
        rw [List.getD_eq_getElem?_getD, List.getElem?_eq_getElem (by omega : k < ws.length)]; exact List.getElem_mem _, h⟩
    · exact ih (by omega) h
theorem nowN_byteF {w : World} {v : Value} {count : Int} {data : List Nat} {ws : Puts} (hd : DiskIn w v count data ws) (n : Int) : ∀ c ∈ nowN data ws n, c < 256 := by
  obtain ⟨p, c, q, m, rfl, hb, _, _, _, hqp, _⟩ := hd.parts
  intro x hi
  unfold nowN at hi
  cases hk : nowK ws n ws.length with
  | none =>
    rw [hk] at hi
    exact hb.2 x (List.mem_of_mem_drop (List.mem_of_mem_take hi))
  | some xs =>
    rw [hk] at hi
    obtain ⟨y, hy, rfl⟩ := nowK_mem (Nat.le_refl _) hk
    obtain ⟨j, hj, he⟩ := List.mem_iff_getElem.1 hy
    obtain ⟨b, o, _, hc⟩ := hqp (by omega)
    obtain ⟨_, v', _, hr⟩ := hc j hj
    rw [show ws.getD j (0, []) = y by rw [List.getD_eq_getElem?_getD, List.getElem?_eq_getElem hj]; exact he] at hr
    obtain ⟨_, _, _, h2, _⟩ := hr.lies
    exact h2.2 x hi
theorem getN_byte {w : World} {v : Value} {count : Int} {data : List Nat} {ws : Puts} (hd : DiskIn w v count data ws) (r : Option (DirV × Int)) (n : Int) (name : ByteArray) : ∀ c ∈ (getN data ws r n name).2, c < 256 := by
  intro c hc
  unfold getN at hc
  rcases r with _ | ⟨x, at_⟩
  · simp at hc
  · simp only at hc
    split at hc
    · split at hc
      · have h := List.mem_of_mem_take hc
        obtain ⟨n', _, h2⟩ := List.mem_flatMap.1 h
        exact nowN_byteF hd n' c h2
      · simp at hc
    · simp at hc
end Go.Proofs.YtiakfdhbbkpfhaaGreatDoor
