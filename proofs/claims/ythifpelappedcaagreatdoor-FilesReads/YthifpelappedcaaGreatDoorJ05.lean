/-
  Contract of the document's taken: which sectors are in pieces.
-/
import Derived.Test.YthifpelappedcaaGreatDoorJ04
import Derived.Test.YthifpelappedcaaGreatDoorJ02
import Derived.Laws.StructEq
namespace Go.Proofs.YthifpelappedcaaGreatDoor
open Go.RowKit Go.WideShapes Go.Shelf Rm

/-- The program's variables that are read hold what the text lays. -/
structure Laid (w : World) : Prop where
  err : ErrT w
  tab : Lib.TabIs Tryz.prog w "internal/strconv.uint64pow10" .u64 Lib.pow10Tab
theorem g_pow : Tryz.prog.globalNamed "internal/strconv.uint64pow10" = some 2 := by kernel_rfl
theorem Laid.below {w w' : World} (h : Laid w) (hb : Below w.heap.size w w') : Laid w' := by
  refine ⟨h.err.below hb, ?_⟩
  have ht := h.tab
  unfold Lib.TabIs World.var? at ht ⊢
  rw [g_pow] at ht ⊢
  simp only [Option.bind_some] at ht ⊢
  have h2 : 2 < w.heap.size := by
    rcases Nat.lt_or_ge 2 w.heap.size with h | h
    · exact h
    · rw [Array.getElem?_eq_none h] at ht; cases ht
  rw [hb.block 2 h2]
  exact ht
theorem grow_below (w : World) (k : Nat) (os : Array Obj) : Below w.heap.size w (Sort.grow (w.drewN k) os) := by
  refine ⟨rfl, rfl, rfl, ?_, fun i hi => ?_⟩
  · show w.heap.size ≤ (w.heap ++ os).size
    simp
  · show (w.heap ++ os)[i]? = _
    rw [Array.getElem?_append_left hi]
theorem itoa_any (n : Nat) (hn : n < 9223372036854775808) (w : World) (hL : Laid w) :
    Calls Tryz.prog 139 #[.int .i64 n] w fun e w' => ∃ s, e = .returned (.string s) ∧ Below w.heap.size w w' := by
  refine (Any.strconv_Itoa laysItoa n (by omega) (by omega) w hL.tab).mono ?_
  rintro e w' ⟨rfl, k, os, rfl⟩
  exact ⟨_, rfl, grow_below _ _ _⟩
theorem digits_small : ∀ i, i < 100 → (Lib.decDigits i).length ≤ 2 := by decide +kernel
theorem itoa_small (n : Nat) (hn : n < 100) (w : World) :
    Calls Tryz.prog 139 #[.int .i64 n] w fun e w' => ∃ s : ByteArray, e = .returned (.string s) ∧ s.size ≤ 2 ∧ w' = w := by
  refine (Any.strconv_Itoa_small { laysItoa with } n hn w).mono ?_
  rintro e w' ⟨rfl, rfl⟩
  exact ⟨_, rfl, by have := digits_small n hn; show (Lib.decDigits n).toArray.size ≤ 2; simpa using this, rfl⟩
end Go.Proofs.YthifpelappedcaaGreatDoor
namespace Go.Proofs.YthifpelappedcaaGreatDoor
open Go.RowKit Go.WideShapes Rm

/-- The order of texts, byte by byte. -/
def ltS (a b : ByteArray) : Prop := Op.bytesLess a.toList b.toList = true
theorem FileIn.of {w : World} {b o k : Nat} {l : List FileV} {q : Option Addr} (h : FilesIn w q l) (hwf : ∀ f ∈ l, wf64 f.size) (hq : q = some ⟨b, o, none⟩) (hk : k < l.length) : ∃ pv, w.cell? ⟨b, o + k * 3, none⟩ = some (.string (l.getD k zeroF).name) ∧ w.cell? ⟨b, o + k * 3 + 1, none⟩ = some (.int .i64 (l.getD k zeroF).size) ∧ w.cell? ⟨b, o + k * 3 + 2, none⟩ = some pv ∧ FileIn w (.agg #[.string (l.getD k zeroF).name, .int .i64 (l.getD k zeroF).size, pv]) (l.getD k zeroF) := by
  subst hq
  obtain ⟨e0, e1, v, e2, hv⟩ := h.at hk
  exact ⟨v, e0, e1, e2, ⟨v, rfl, hv⟩, hwf _ (getD_mem' hk)⟩
theorem str_geq (a b : ByteArray) (w : World) : (binOp .geq 9 (.string a) (.string b)).run Tryz.prog w = .ok (.bool (!Op.bytesLess a.toList b.toList)) w := by simp [binOp, Op.stringOp]
theorem below_drewN {B : Nat} {a w : World} (h : Below B a w) (n : Nat) : Below B a (w.drewN n) := ⟨h.os, h.tape, h.output, h.size, h.block⟩
theorem FIn.wfp {w : World} {v : Value} {l : List FileV} (h : FIn w v l) : Wf (allPcs l) := by
  obtain ⟨q, c, _, hq, _⟩ := h.lies
  intro y hy
  obtain ⟨f, hf, hp⟩ := List.mem_flatMap.1 hy
  obtain ⟨i, hi, rfl⟩ := List.getElem_of_mem hf
  obtain ⟨b, o, _, hc⟩ := hq (by omega)
  obtain ⟨_, _, pv, _, hv⟩ := hc i hi
  rw [getD_eq hi] at hv
  exact hv.wf y hp
theorem each_of {l : List FileV} (h : ∀ j, j < l.length → FileOk (l.getD j zeroF)) : ∀ f ∈ l, FileOk f := by
  intro f hf
  obtain ⟨i, hi, rfl⟩ := List.getElem_of_mem hf
  have := h i hi
  rwa [getD_eq hi] at this
theorem ok_step {l : List FileV} {k : Nat} (h : ∀ j, j < k → FileOk (l.getD j zeroF)) (h1 : FileOk (l.getD k zeroF)) : ∀ j, j < k + 1 → FileOk (l.getD j zeroF) := by
  intro j hj
  rcases Nat.lt_or_ge j k with h' | h'
  · exact h j h'
  · obtain rfl : j = k := by omega
    exact h1
theorem Rises.of {l : List FileV} (h : ∀ j, j + 1 < l.length → ltS (l.getD j zeroF).name (l.getD (j + 1) zeroF).name) : Rises ltS l := h
theorem rise_step {l : List FileV} {k : Nat} (h : ∀ j, j + 1 < k + 1 → ltS (l.getD j zeroF).name (l.getD (j + 1) zeroF).name) (h1 : ltS (l.getD k zeroF).name (l.getD (k + 1) zeroF).name) : ∀ j, j + 1 < k + 1 + 1 → ltS (l.getD j zeroF).name (l.getD (j + 1) zeroF).name := by
  intro j hj
  rcases Nat.lt_or_ge j k with h' | h'
  · exact h j (by omega)
  · obtain rfl : j = k := by omega
    exact h1

set_option maxRecDepth 4000 in
set_option maxHeartbeats 2000000 in
theorem check4_any (v : Value) (x : DirV) (w : World) (hx : DirIn w v x) (hs : ∀ f ∈ x.files, (f.name.size : Int) ≤ 9223372036854775807) (hsum : (allPcs x.files).length ≤ 1000000) :
    Calls Tryz.prog 104 #[v] w fun e w' => ∃ r, e = .returned r ∧ NilOr8 (May ltS x) r ∧ Below w.heap.size w w' := by
  obtain ⟨fv, rfl, hf⟩ := hx.lies
  obtain ⟨gen, l⟩ := x
  have hgw := hx.wf
  unfold wf64 at hgw
  have HF : Hid (FIn w fv l) := hf
  obtain ⟨q, c, rfl, hq, hlc, hcm, hqn⟩ := hf.lies
  have hwf := hf.wf
  unfold maxLen at hcm
  simp only at hs hsum hlc hgw ⊢
  have HQ : Hid (FilesIn w q l) := hq
  have HWF : Hid (∀ f ∈ l, wf64 f.size) := hwf
  have HSZ : Hid (∀ f ∈ l, (f.name.size : Int) ≤ 9223372036854775807) := hs
  clear hq hqn hf hx hwf hs
  by_cases h1 : 1 ≤ gen ∧ gen < 4611686018427387904
  · by_cases h2 : l.length ≤ 32
    · go_enter Tryz.func104, Tryz.ntmps104
      go_wp2
      go_loopw [29] (fun i wr => ∃ k : Nat, k ≤ l.length ∧ i = .int .i64 k ∧ (∀ j, j + 1 < k → ltS (l.getD j zeroF).name (l.getD (j + 1) zeroF).name) ∧ Below (w.heap.size + 1) (w.alloc (.cells #[.int .i64 gen, .slice q l.length c] 31)) wr) (fun i _ => l.length - (intOf i).toNat)
      case atStart => exact ⟨0, by omega, rfl, fun j hj => absurd hj (by omega), Below.refl _ _⟩
      case round =>
        obtain ⟨k, hk, rfl, hrise, hbel⟩ := hrel
        have HR : Hid (∀ j, j + 1 < k → ltS (l.getD j zeroF).name (l.getD (j + 1) zeroF).name) := hrise
        clear hrise
        have hsz := hbel.size
        simp at hsz
        have hbw : Below w.heap.size w wr := box_below hbel
        have HBW : Hid (Below w.heap.size w wr) := hbw
        obtain ⟨d0, d1⟩ := box2 hbel
        by_cases hkl : k < l.length
        · obtain ⟨b, o, rfl⟩ := HQ.out.addr (by omega)
          obtain ⟨e0, e1, pv, e2, hp⟩ := (HQ.out.below hbw).at hkl
          obtain ⟨qp, cp, rfl, _⟩ := hp.lies
          rcases k with _ | k
          · clear HR
            clear hp
            generalize l.getD 0 zeroF = y at *
            obtain ⟨nm, sz, pl⟩ := y
            simp only [Nat.zero_mul, Nat.add_zero] at e0 e1 e2
            go_wp2
            go_quiet (fail)
            go_wp2
            go_roundw
            case rel => exact ⟨1, by omega, by go_num, fun j hj => absurd hj (by omega), below_drewN (hbel.alloc (by omega) _) _⟩
            case measure => simp [intOf]; omega
          · obtain ⟨p0, _⟩ := (HQ.out.below hbw).at (k := k) (by omega)
            have HST : Hid (ltS (l.getD k zeroF).name (l.getD (k + 1) zeroF).name → ∀ j, j + 1 < k + 1 + 1 → ltS (l.getD j zeroF).name (l.getD (j + 1) zeroF).name) := rise_step HR.out
            have HNO : Hid (¬ ltS (l.getD k zeroF).name (l.getD (k + 1) zeroF).name → ¬ May ltS ⟨gen, l⟩) := fun h hm => h (hm.rise k hkl)
            clear HR
            clear hp
            generalize l.getD (k + 1) zeroF = y at *
            generalize l.getD k zeroF = z at *
            obtain ⟨nm, sz, pl⟩ := y
            obtain ⟨nm0, sz0, pl0⟩ := z
            simp only at e0 e1 e2 p0
            have d1' : (wr.alloc (.cells #[.string nm, .int .i64 sz, .slice qp pl.length cp] 51)).cell? ⟨w.heap.size, 1, none⟩ = some (.slice (some ⟨b, o, none⟩) l.length c) := by rw [World.cell?_alloc_lt _ _ _ (by simp; omega)]; exact d1
            have p0' : (wr.alloc (.cells #[.string nm, .int .i64 sz, .slice qp pl.length cp] 51)).cell? ⟨b, o + k * 3, none⟩ = some (.string nm0) := by rw [World.cell?_alloc_lt _ _ _ (World.block_lt_of_cell? _ _ p0)]; exact p0
            have hgeq := str_geq
            by_cases g : ltS nm0 nm
            · have H2 : Hid _ := HST.out g
              unfold ltS at g
              clear HST HNO
              go_wp2
              go_quiet (fail)
              go_wp2
              go_roundw
              case rel => exact ⟨k + 1 + 1, by omega, by go_num, H2.out, below_drewN (hbel.alloc (by omega) _) _⟩
              case measure => simp [intOf]; omega
            · have H2 : Hid (¬ May ltS ⟨gen, l⟩) := HNO.out g
              unfold ltS at g
              simp only [Bool.not_eq_true] at g
              clear HST HNO
              go_wp2
              go_quiet (fail)
              go_wp2
              go_ret
              exact ⟨_, rfl, .inr ⟨H2.out, Faults.one _ _⟩, below_drewN (HBW.out.alloc HBW.out.size _) _⟩
        · obtain rfl : k = l.length := by omega
          have HRI : Hid (Rises ltS l) := HR.out
          have hpc := pieces_any _ l wr (HF.out.below hbw) hsum
          have HWP : Hid (Wf (allPcs l)) := HF.out.wfp
          have HBE : Hid _ := hbel
          clear HR hbel hbw
          go_wp2_with fail
          refine hpc.mono ?_
          rintro e w1 ⟨r1, rfl, ho1, hb1⟩
          have hck := Rm.check_any 4096 r1 (allPcs l) w1 (ho1.pin HWP.out)
          clear ho1
          have hsz1 := hb1.size
          go_wp2_with fail
          refine hck.mono ?_
          rintro e w2 ⟨rfl, hb2⟩
          have hsz2 := hb2.size
          have hbel2 : Below (w.heap.size + 1) (w.alloc (.cells #[.int .i64 gen, .slice q l.length c] 31)) w2 := (HBE.out.trans (hb1.mono hsz)).trans (hb2.mono (by omega))
          obtain ⟨d0, d1⟩ := box2 hbel2
          have HB2 : Hid (Below w.heap.size w w2) := box_below hbel2
          clear hpc hck hb1 hb2 HBE HBW
          by_cases h3 : errK 4096 (allPcs l) = 0
          · have HK : Hid (errK 4096 (allPcs l) = 0) := h3
            rw [h3]
            clear h3
            go_wp2
            go_loopw [63] (fun i wr => ∃ k : Nat, k ≤ l.length ∧ i = .int .i64 k ∧ (∀ j, j < k → FileOk (l.getD j zeroF)) ∧ Below (w.heap.size + 1) (w.alloc (.cells #[.int .i64 gen, .slice q l.length c] 31)) wr) (fun i _ => l.length - (intOf i).toNat)
            case atStart => exact ⟨0, by omega, rfl, fun j hj => absurd hj (by omega), hbel2⟩
            case round =>
              clear hbel2 d0 d1 HB2 hsz hsz1 hsz2
              obtain ⟨k, hk, rfl, hok, hbel⟩ := hrel
              have HOK : Hid (∀ j, j < k → FileOk (l.getD j zeroF)) := hok
              clear hok
              have hsz := hbel.size
              simp at hsz
              have hbw : Below w.heap.size w wr := box_below hbel
              have HBW : Hid (Below w.heap.size w wr) := hbw
              by_cases hkl : k < l.length
              · obtain ⟨b, o, rfl⟩ := HQ.out.addr (by omega)
                obtain ⟨e0, e1, pv, e2, hp⟩ := (HQ.out.below hbw).at hkl
                have hfin : FileIn wr (.agg #[.string (l.getD k zeroF).name, .int .i64 (l.getD k zeroF).size, pv]) (l.getD k zeroF) := ⟨⟨pv, rfl, hp⟩, HWF.out _ (getD_mem' hkl)⟩
                have hgood := (errK_zero HK.out).2.2
                have hcf := checkFile_any _ (l.getD k zeroF) _ (hfin.below (below_alloc wr (.cells #[.string (l.getD k zeroF).name, .int .i64 (l.getD k zeroF).size, pv] 51))) (HSZ.out _ (getD_mem' hkl))
                  (fun p hp => by have := hgood.wn p (mem_allPcs (getD_mem' hkl) hp); unfold Wn at this; omega) (by have := len_allPcs (getD_mem' (d := zeroF) hkl); omega)
                have HST : Hid (FileOk (l.getD k zeroF) → ∀ j, j < k + 1 → FileOk (l.getD j zeroF)) := ok_step HOK.out
                have HNO : Hid (¬ FileOk (l.getD k zeroF) → ¬ May ltS ⟨gen, l⟩) := fun h hm => h (hm.each _ (getD_mem' hkl))
                obtain ⟨qp, cp, rfl, _⟩ := hp.lies
                clear HOK hbw hgood hfin hp
                generalize l.getD k zeroF = y at *
                obtain ⟨nm, sz, pl⟩ := y
                simp only at e0 e1 e2 hcf
                go_wp2_with fail
                refine hcf.mono ?_
                rintro e w3 ⟨r, rfl, hr, hb3⟩
                have hsz3 := hb3.size
                simp at hsz3
                have HB3 : Hid (Below wr.heap.size wr w3) := (below_alloc wr _).trans (hb3.mono (by simp))
                clear hcf hb3
                rcases hr with ⟨hok, rfl⟩ | ⟨hno, hfl⟩
                · have H3 : Hid _ := HST.out hok
                  clear HST HNO
                  go_wp2
                  go_roundw
                  case rel => exact ⟨k + 1, by omega, by go_num, H3.out, hbel.trans (HB3.out.mono hsz)⟩
                  case measure => simp [intOf]; omega
                · have H3 : Hid (¬ May ltS ⟨gen, l⟩) := HNO.out hno
                  have HFL : Hid (Faults r 8) := hfl
                  obtain ⟨tx, vx, rfl⟩ := hfl.iface
                  clear HST HNO hfl hno
                  go_wp2_with (go_at_call 139; refine (itoa_small k (by omega) _).mono ?_; rintro e w4 ⟨st, rfl, hst, rfl⟩)
                  go_ret
                  exact ⟨_, rfl, .inr ⟨H3.out, .more _ HFL.out⟩, HBW.out.trans (HB3.out.mono HBW.out.size)⟩
              · obtain rfl : k = l.length := by omega
                have HM : Hid (May ltS ⟨gen, l⟩) := ⟨h1.1, h1.2, h2, HRI.out, HK.out, each_of HOK.out⟩
                clear HOK
                go_wp2
                go_ret
                exact ⟨_, rfl, .inl ⟨HM.out, rfl⟩, HBW.out⟩
          · have hne : (errK 4096 (allPcs l) != 0) = true := by simpa using h3
            have H3 : Hid (¬ May ltS ⟨gen, l⟩) := fun h => h3 h.pcs
            generalize errK 4096 (allPcs l) = E at *
            clear h3
            go_wp2
            go_ret
            exact ⟨_, rfl, .inr ⟨H3.out, Faults.one _ _⟩, HB2.out⟩
    · go_enter Tryz.func104, Tryz.ntmps104
      go_wp2
      go_ret
      exact ⟨_, rfl, .inr ⟨fun h => h2 h.many, Faults.one _ _⟩, below_alloc _ _⟩
  · go_enter Tryz.func104, Tryz.ntmps104
    go_wp2
    all_goals
      go_ret
      exact ⟨_, rfl, .inr ⟨fun h => h1 ⟨h.lo, h.hi⟩, Faults.one _ _⟩, below_alloc _ _⟩
end Go.Proofs.YthifpelappedcaaGreatDoor
namespace Go.Proofs.YthifpelappedcaaGreatDoor
open Go.RowKit Go.WideShapes


set_option maxHeartbeats 400000 in
set_option maxRecDepth 100000 in
theorem refSmall_any (n : Nat) (w : World) (hn : n < 18446744073709551616) :
    Calls Tryz.prog 106 #[.int .u64 n] w fun e w' => ∃ v, e = .returned v ∧ w'.ownsRow w.heap.size 5 1 v (smallN n).length (Bs (smallN n)) ∧ Below w.heap.size w w' := by
  obtain ⟨i0, hi, hz0, hz1, hz2⟩ := info_parts info5
  have hten := smallN_ten n hn
  go_enter Tryz.func106, Tryz.ntmps106
  go_wp2
  go_loopw [0, 3] (fun t v wr => ∃ m : Nat, ∃ xs : List Nat, m < 18446744073709551616 ∧ t = .int .u64 m ∧ smallN n = xs ++ smallN m ∧ wr.ownsRow w.heap.size 5 1 v xs.length (Bs xs) ∧ Below w.heap.size w wr)
    (fun t _ _ => (intOf t).toNat)
  case atStart => exact ⟨n, [], hn, rfl, rfl, World.ownsRow_nil _ _ _ _, Below.refl _ _⟩
  case round =>
    obtain ⟨m, xs, hm, rfl, hsm, hown, hnx⟩ := hrel
    have HS : Hid _ := hsm
    clear hsm
    have hpos := smallN_pos m
    have hxl : xs.length + (smallN m).length ≤ 10 := by rw [HS.out] at hten; simpa using hten
    have hsz := hnx.size
    by_cases hlt : m < 128
    · go_wp2_with (at_builtin; refine wpList_append_own _ rfl _ _ 22 rfl w.heap.size 5 i0 (.int .u8 0) 1 1 Tryz.underlying22 hi hz0 hz1 hz2 rfl (by decide) _ _ _ rfl (hown.alloc _) ⟨wr.heap.size, 0, none⟩ 1 1 [.int .u8 (m : Int)] rfl rfl (cell_one_new _ _ _) ?c2 ?c3 ?c4 ?c5 ?_)
      case c2 => intro u hu; simp at hu; subst hu; rfl
      case c3 => unfold maxLen; omega
      case c4 => omega
      case c5 => simp; omega
      intro v' w1 hown' hgrow _
      have R := rel_push rfl hown hnx hsz hown' hgrow
      have e : smallN n = xs ++ [m] := by rw [HS.out, smallN_lo hlt]
      rw [← e] at R
      clear hown' hgrow hown e
      go_wp2
      go_ret
      exact ⟨v', rfl, R.1, R.2⟩
    · go_wp2_with (at_builtin; refine wpList_append_own _ rfl _ _ 22 rfl w.heap.size 5 i0 (.int .u8 0) 1 1 Tryz.underlying22 hi hz0 hz1 hz2 rfl (by decide) _ _ _ rfl (hown.alloc _) ⟨wr.heap.size, 0, none⟩ 1 1 [.int .u8 ((m : Int) % 128 + 128)] rfl rfl (cell_one_new _ _ _) ?d2 ?d3 ?d4 ?d5 ?_)
      case d2 => intro u hu; simp at hu; subst hu; rfl
      case d3 => unfold maxLen; omega
      case d4 => omega
      case d5 => simp; omega
      intro v' w1 hown' hgrow _
      have R := rel_push (c := m % 128 + 128) (by omega) hown hnx hsz hown' hgrow
      have e : Hid (smallN n = (xs ++ [m % 128 + 128]) ++ smallN (m / 128)) := by show _ = _; rw [HS.out, smallN_hi hlt]; simp
      clear hown' hgrow hown
      go_wp2
      go_roundw
      case rel => exact ⟨m / 128, xs ++ [m % 128 + 128], by omega, by go_num, e.out, R.1, R.2⟩
      case measure => simp [intOf]; omega

set_option maxHeartbeats 400000 in
theorem refText_any (s : ByteArray) (w : World) (hs : s.size ≤ 100000) :
    Calls Tryz.prog 59 #[.string s] w fun e w' => ∃ v, e = .returned v ∧ w'.ownsRow w.heap.size 5 1 v (textN s).length (Bs (textN s)) ∧ Below w.heap.size w w' := by
  obtain ⟨i0, hi, hz0, hz1, hz2⟩ := info_parts info5
  have hten := smallN_ten s.size (by omega)
  go_enter Tryz.func59, Tryz.ntmps59
  go_wp2_with fail
  refine (refSmall_any s.size w (by omega)).mono ?_
  rintro e w1 ⟨v, rfl, hown, hb⟩
  have hsz := hb.size
  go_wp2_with (at_builtin; refine Lib.wpList_append_own_string _ rfl _ _ 22 9 rfl w.heap.size 5 i0 Tryz.underlying22 Tryz.underlying9 hi hz0 hz1 hz2 _ _ _ rfl hown s rfl ?c3 ?c4 hsz ?_)
  case c3 => unfold maxLen; omega
  case c4 => omega
  intro v' w2 hown' hgrow _
  have R : w2.ownsRow w.heap.size 5 1 v' (textN s).length (Bs (textN s)) := by simpa [textN, numsOf_len, Bs_app, strCells_Bs] using hown'
  have hb2 := hb.grown hgrow hsz (fun k hk => (hown.lt k hk).1)
  clear hown' hgrow hown
  go_wp2
  go_ret
  exact ⟨v', rfl, R, hb2⟩

/-- The lowest k bytes of a number. -/
def putK : Nat → Nat → List Nat
  | 0, _ => []
  | k + 1, m => (m % 256) :: putK k (m / 256)
theorem putK_8 (n : Nat) (h : n < 18446744073709551616) : putK 8 n = putN n := by
  simp only [putK, putN, Nat.div_div_eq_div_mul, Nat.reduceMul]
  have : n / 72057594037927936 % 256 = n / 72057594037927936 := by omega
  rw [this]
theorem putK_step (k m : Nat) (h : k < 8) : putK (8 - k) m = (m % 256) :: putK (8 - (k + 1)) (m / 256) := by
  rw [show 8 - k = (8 - (k + 1)) + 1 from by omega]; rfl

set_option maxHeartbeats 400000 in
set_option maxRecDepth 100000 in
theorem refPut_any (n : Nat) (w : World) (hn : n < 18446744073709551616) :
    Calls Tryz.prog 60 #[.int .u64 n] w fun e w' => ∃ v, e = .returned v ∧ w'.ownsRow w.heap.size 5 1 v 8 (Bs (putN n)) ∧ Below w.heap.size w w' := by
  obtain ⟨i0, hi, hz0, hz1, hz2⟩ := info_parts info5
  have HP : Hid (putK 8 n = putN n) := putK_8 n hn
  go_enter Tryz.func60, Tryz.ntmps60
  go_wp2
  go_loopw [0, 3, 4] (fun t v i wr => ∃ k m : Nat, ∃ xs : List Nat, k ≤ 8 ∧ m < 18446744073709551616 ∧ t = .int .u64 m ∧ i = .int .i64 k ∧ xs.length = k ∧ putN n = xs ++ putK (8 - k) m ∧ wr.ownsRow w.heap.size 5 1 v xs.length (Bs xs) ∧ Below w.heap.size w wr)
    (fun _ _ i _ => 8 - (intOf i).toNat)
  case atStart => exact ⟨0, n, [], by omega, hn, rfl, rfl, rfl, HP.out.symm, World.ownsRow_nil _ _ _ _, Below.refl _ _⟩
  case round =>
    obtain ⟨k, m, xs, hk, hm, rfl, rfl, hxk, hsm, hown, hnx⟩ := hrel
    have HS : Hid _ := hsm
    have HX : Hid (xs.length = k) := hxk
    have hxl : xs.length ≤ 8 := by omega
    clear hsm hxk
    have hsz := hnx.size
    by_cases hlt : k < 8
    · have HK : Hid _ := putK_step k m hlt
      go_wp2_with (at_builtin; refine wpList_append_own _ rfl _ _ 22 rfl w.heap.size 5 i0 (.int .u8 0) 1 1 Tryz.underlying22 hi hz0 hz1 hz2 rfl (by decide) _ _ _ rfl (hown.alloc _) ⟨wr.heap.size, 0, none⟩ 1 1 [.int .u8 ((m : Int) % 256)] rfl rfl (cell_one_new _ _ _) ?d2 ?d3 ?d4 ?d5 ?_)
      case d2 => intro u hu; simp at hu; subst hu; rfl
      case d3 => unfold maxLen; omega
      case d4 => omega
      case d5 => simp; omega
      intro v' w1 hown' hgrow _
      have R := rel_push (c := m % 256) (by omega) hown hnx hsz hown' hgrow
      have e : Hid (putN n = (xs ++ [m % 256]) ++ putK (8 - (k + 1)) (m / 256)) := by show _ = _; rw [HS.out, HK.out]; simp
      clear hown' hgrow hown
      go_wp2
      go_roundw
      case rel => exact ⟨k + 1, m / 256, xs ++ [m % 256], by omega, by omega, by go_num, by go_num, by simp [HX.out], e.out, R.1, R.2⟩
      case measure => simp [intOf]; omega
    · have e : putN n = xs ∧ xs.length = 8 := by
        have h8 : k = 8 := by omega
        refine ⟨?_, by rw [HX.out, h8]⟩
        rw [HS.out, h8]; simp [putK]
      rw [e.2, ← e.1] at hown
      clear e
      have HO : Hid _ := hown
      clear hown
      go_wp2
      go_ret
      exact ⟨_, rfl, HO.out, hnx⟩

set_option maxHeartbeats 400000 in
theorem refGet_bad (p : Option Addr) (n c : Nat) (w : World) (hn : n ≠ 8) :
    Calls Tryz.prog 63 #[.slice p n c] w fun e w' => e = .returned (.tuple #[.int .u64 0, .int .i64 8]) ∧ w' = w := by
  go_enter Tryz.func63, Tryz.ntmps63
  go_wp2
  go_ret2
  exact ⟨rfl, rfl⟩
theorem ret_two {a b : Int} {k1 k2 : IntKind} {c : Int} (h : a = b) : Ending.returned (.tuple #[.int k1 a, .int k2 c]) = .returned (.tuple #[.int k1 b, .int k2 c]) := by rw [h]
set_option maxHeartbeats 1000000 in
theorem refGet_ok (p : Option Addr) (c : Nat) (a0 a1 a2 a3 a4 a5 a6 a7 : Nat) (w : World) (hb : BIn w p [a0, a1, a2, a3, a4, a5, a6, a7]) :
    Calls Tryz.prog 63 #[.slice p 8 c] w fun e w' => e = .returned (.tuple #[.int .u64 (joinN a0 a1 a2 a3 a4 a5 a6 a7 : Nat), .int .i64 0]) ∧ w' = w := by
  obtain ⟨b, o, rfl, hc⟩ := hb.1 (by simp)
  have c0 : w.cell? ⟨b, o, none⟩ = some (.int .u8 a0) := hc 0 (by simp)
  have c1 : w.cell? ⟨b, o + 1, none⟩ = some (.int .u8 a1) := hc 1 (by simp)
  have c2 : w.cell? ⟨b, o + 2, none⟩ = some (.int .u8 a2) := hc 2 (by simp)
  have c3 : w.cell? ⟨b, o + 3, none⟩ = some (.int .u8 a3) := hc 3 (by simp)
  have c4 : w.cell? ⟨b, o + 4, none⟩ = some (.int .u8 a4) := hc 4 (by simp)
  have c5 : w.cell? ⟨b, o + 5, none⟩ = some (.int .u8 a5) := hc 5 (by simp)
  have c6 : w.cell? ⟨b, o + 6, none⟩ = some (.int .u8 a6) := hc 6 (by simp)
  have c7 : w.cell? ⟨b, o + 7, none⟩ = some (.int .u8 a7) := hc 7 (by simp)
  have hl := hb.2
  simp only [List.mem_cons, List.not_mem_nil, or_false, forall_eq_or_imp, forall_eq] at hl
  obtain ⟨l0, l1, l2, l3, l4, l5, l6, l7⟩ := hl
  clear hb hc
  go_enter Tryz.func63, Tryz.ntmps63
  go_wp2
  refine wp_loop_rounds 9 ?_
  iterate 9 (rw [rounds_succ]; go_wp2)
  go_ret2
  refine ⟨ret_two ?_, rfl⟩
  unfold joinN; omega
end Go.Proofs.YthifpelappedcaaGreatDoor
namespace Go.Proofs.YthifpelappedcaaGreatDoor
open Go.RowKit Go.WideShapes


/-- The number of bytes, seven bits each, the lowest first. -/
def val : List Nat → Nat
  | [] => 0
  | c :: l => c % 128 + 128 * val l
theorem val_snoc (l : List Nat) (c : Nat) : val (l ++ [c]) = c % 128 * 2 ^ (7 * l.length) + val l := by
  induction l with
  | nil => simp [val]
  | cons a l ih =>
    rw [List.cons_append, val, val, ih, List.length_cons, show 7 * (l.length + 1) = 7 * l.length + 7 from by omega, Nat.pow_add]
    generalize 2 ^ (7 * l.length) = X
    rw [show 128 * (c % 128 * X + val l) = c % 128 * (X * 2 ^ 7) + 128 * val l from by rw [Nat.mul_add, ← Nat.mul_assoc, Nat.mul_comm 128 (c % 128), Nat.mul_assoc, Nat.mul_comm 128 X]]
    omega
theorem val_lt (l : List Nat) : val l < 2 ^ (7 * l.length) := by
  induction l with
  | nil => simp [val]
  | cons a l ih =>
    rw [val, List.length_cons, show 7 * (l.length + 1) = 7 * l.length + 7 from by omega, Nat.pow_add]
    omega
theorem take_at (xs : List Nat) (k : Nat) (h : k < xs.length) : xs.take (k + 1) = xs.take k ++ [xs.getD k 0] := by
  rw [List.take_succ_eq_append_getElem h]; simp [List.getD, List.getElem?_eq_getElem h]
theorem val_take (xs : List Nat) (k : Nat) (h : k < xs.length) : val (xs.take (k + 1)) = xs.getD k 0 % 128 * 2 ^ (7 * k) + val (xs.take k) := by
  rw [take_at xs k h, val_snoc, List.length_take, Nat.min_eq_left (by omega)]
theorem val_drop (xs : List Nat) (k t : Nat) (h : t ≤ k) (hk : k < xs.length) : val ((xs.take (k + 1)).drop t) = xs.getD t 0 % 128 + 128 * val ((xs.take (k + 1)).drop (t + 1)) := by
  have hl : t < (xs.take (k + 1)).length := by simp; omega
  rw [List.drop_eq_getElem_cons hl, val]
  congr 1
  simp [List.getD, List.getElem?_eq_getElem (show t < xs.length from by omega)]
theorem val_drop_le (l : List Nat) (t : Nat) : val (l.drop t) ≤ val l := by
  induction l generalizing t with
  | nil => simp
  | cons a l ih =>
    cases t with
    | zero => simp
    | succ t => rw [List.drop_succ_cons, val]; have := ih t; omega
theorem val_fits {l : List Nat} {t : Nat} (h : val l < 18446744073709551616) : val (l.drop t) < 18446744073709551616 := Nat.lt_of_le_of_lt (val_drop_le l t) h
theorem read_skip {xs : List Nat} (j : Nat) (hj : j ≤ 9) (hlen : j ≤ xs.length) (hall : ∀ i, i < j → 128 ≤ xs.getD i 0) : readN xs = readAux j (val (xs.take j)) (xs.drop j) := by
  induction j with
  | zero => simp [val, readN]
  | succ j ih =>
    rw [ih (by omega) (by omega) (fun i hi => hall i (by omega)), drop_at xs j (by omega), aux_hi (by omega) (hall j (by omega)), val_take xs j (by omega)]
theorem read_over {xs : List Nat} (hlen : 10 ≤ xs.length) (hall : ∀ i, i < 10 → 128 ≤ xs.getD i 0) : readN xs = none := by
  have := hall 9 (by omega)
  rw [read_skip 9 (by omega) (by omega) (fun i hi => hall i (by omega)), drop_at xs 9 (by omega), aux_big ⟨rfl, by omega⟩]
theorem read_end {xs : List Nat} (hlen : xs.length ≤ 9) (hall : ∀ i, i < xs.length → 128 ≤ xs.getD i 0) : readN xs = none := by
  rw [read_skip xs.length hlen (by omega) hall, List.drop_length]; rfl
theorem read_big {xs : List Nat} (hlen : 9 < xs.length) (hall : ∀ i, i < 9 → 128 ≤ xs.getD i 0) (h : 1 < xs.getD 9 0) : readN xs = none := by
  rw [read_skip 9 (by omega) (by omega) hall, drop_at xs 9 hlen, aux_big ⟨rfl, h⟩]
theorem read_zero {xs : List Nat} {k : Nat} (hlen : k < xs.length) (hk : k ≤ 9) (hall : ∀ i, i < k → 128 ≤ xs.getD i 0) (h0 : 0 < k) (h : xs.getD k 0 = 0) : readN xs = none := by
  rw [read_skip k hk (by omega) hall, drop_at xs k hlen, aux_zero (by omega) (by omega) ⟨h, h0⟩]
theorem read_ok {xs : List Nat} {k : Nat} (hlen : k < xs.length) (hk : k ≤ 9) (hall : ∀ i, i < k → 128 ≤ xs.getD i 0) (hc : xs.getD k 0 < 128) (hbig : k = 9 → xs.getD k 0 ≤ 1) (hz : 0 < k → xs.getD k 0 ≠ 0) : readN xs = some (val (xs.take (k + 1)), k + 1) := by
  rw [read_skip k hk (by omega) hall, drop_at xs k hlen, aux_end (by omega) (by omega) (by omega), val_take xs k hlen]
theorem read_ok_fits {xs : List Nat} {k : Nat} (hlen : k < xs.length) (hk : k ≤ 9) (hall : ∀ i, i < k → 128 ≤ xs.getD i 0) (hc : xs.getD k 0 < 128) (hbig : k = 9 → xs.getD k 0 ≤ 1) (hz : 0 < k → xs.getD k 0 ≠ 0) : val (xs.take (k + 1)) < 18446744073709551616 :=
  (readN_some (read_ok hlen hk hall hc hbig hz)).2.2.2

set_option maxHeartbeats 2000000 in
set_option maxRecDepth 100000 in
theorem refRead_any (p : Option Addr) (cap : Nat) (xs : List Nat) (w : World) (hb : BIn w p xs) (hm : xs.length ≤ maxLen) :
    Calls Tryz.prog 112 #[.slice p xs.length cap] w fun e w' => e = .returned (readV (readN xs)) ∧ w' = w := by
  unfold maxLen at hm
  have hlt := hb.2
  go_enter Tryz.func112, Tryz.ntmps112
  go_wp2
  go_loop [5] (fun i => ∃ k : Nat, k ≤ xs.length ∧ k ≤ 10 ∧ i = .int .i64 k ∧ ∀ i, i < k → 128 ≤ xs.getD i 0) (fun i => xs.length - (intOf i).toNat)
  case atStart => exact ⟨0, by omega, by omega, rfl, by intro i hi; omega⟩
  case round =>
    obtain ⟨k, hk, hk10, rfl, hall⟩ := hrel
    have HA : Hid (∀ i, i < k → 128 ≤ xs.getD i 0) := hall
    clear hall
    by_cases hlen : k < xs.length
    · obtain ⟨b, o, rfl, hcell⟩ := hb.1 (by omega)
      have hck := hcell k hlen
      have hb8 := getD_lt hlt k
      by_cases h10 : k < 10
      · by_cases hc128 : 128 ≤ xs.getD k 0
        · have HC : Hid (128 ≤ xs.getD k 0) := hc128
          generalize hcd : xs.getD k 0 = c at *
          have HCD : Hid _ := hcd
          clear hcd hcell hb hlt
          go_wp2
          go_round
          case rel => exact ⟨k + 1, by omega, by omega, by go_num, fun i hi => by
            rcases Nat.lt_or_ge i k with h | h
            · exact HA.out i h
            · obtain rfl : i = k := by omega
              rw [HCD.out]; exact hc128⟩
          case measure => simp [intOf]; omega
        · have hc128 : xs.getD k 0 < 128 := by omega
          have hk9 : k ≤ 9 := by omega
          have hall := HA.out
          clear HA hb
          by_cases hk9' : k = 9
          · by_cases hbig0 : 1 < xs.getD k 0
            · have HN : Hid (readN xs = none) := by subst hk9'; exact read_big hlen hall hbig0
              subst hk9'
              clear hcell hall hlt
              generalize xs.getD 9 0 = c at *
              go_wp2
              go_ret3
              exact ⟨by rw [HN.out]; rfl, rfl⟩
            · have hbig : k = 9 → xs.getD k 0 ≤ 1 := fun _ => by omega
              by_cases h0 : xs.getD k 0 = 0
              · have HN : Hid (readN xs = none) := read_zero hlen hk9 hall (by omega) h0
                have hc0 : ((xs.getD k 0 : Nat) : Int) ≤ 0 := by omega
                have hc0b : (((xs.getD k 0 : Nat) : Int) == 0) = true := by rw [h0]; rfl
                have hc1 : ((xs.getD k 0 : Nat) : Int) ≤ 1 := by omega
                clear h0 hbig
                subst hk9'
                clear hcell hall hlt
                generalize xs.getD 9 0 = c at *
                go_wp2
                go_ret3
                exact ⟨by rw [HN.out]; rfl, rfl⟩
              · have hzer : 0 < k → xs.getD k 0 ≠ 0 := fun _ => h0
                have hc1 : ((xs.getD k 0 : Nat) : Int) ≤ 1 := by omega
                have hc0b : (((xs.getD k 0 : Nat) : Int) == 0) = false := by simpa using h0
                subst hk9'
                clear h0
                have HE : Hid _ := read_ok hlen hk9 hall hc128 hbig hzer
                have HF : Hid _ := read_ok_fits hlen hk9 hall hc128 hbig hzer
                have hLl : Hid ((xs.take (9 + 1)).length = 9 + 1) := by show _ = _; simp; omega
                clear hall hbig hzer
                generalize xs.getD 9 0 = ck at *
                have HCell : Hid _ := hcell
                clear hcell
                go_wp2
                go_loop [6, 7] (fun t i => ∃ j : Nat, j ≤ 9 + 1 ∧ i = .int .i64 ((j : Int) - 1) ∧ t = .int .u64 (val ((xs.take (9 + 1)).drop j) : Nat)) (fun _ i => (intOf i + 1).toNat)
                case atStart => exact ⟨9 + 1, by omega, by go_num, by rw [List.drop_eq_nil_of_le (by rw [hLl.out]; exact Nat.le_refl _)]; rfl⟩
                case round =>
                  obtain ⟨j, hj, rfl, rfl⟩ := hrel
                  by_cases hj0 : 0 < j
                  · obtain ⟨t, rfl⟩ : ∃ t, j = t + 1 := ⟨j - 1, by omega⟩
                    rw [show ((t + 1 : Nat) : Int) - 1 = (t : Int) from by omega]
                    have htk : t ≤ 9 := by omega
                    have hct := HCell.out t (by omega)
                    have hb8t := getD_lt hlt t
                    have HV : Hid _ := val_drop xs 9 t htk (by omega)
                    have hv2 := val_fits (t := t) HF.out
                    rw [HV.out] at hv2
                    generalize val ((xs.take (9 + 1)).drop (t + 1)) = q at *
                    generalize xs.getD t 0 = ct at *
                    clear HCell hck
                    go_wp2
                    go_round
                    case rel => exact ⟨t, by omega, by go_num, by rw [HV.out]; go_num⟩
                    case measure => simp [intOf]
                  · obtain rfl : j = 0 := by omega
                    rw [List.drop_zero]
                    rw [show (((0 : Nat) : Int) - 1) = -1 from by omega]
                    generalize val (xs.take (9 + 1)) = q at *
                    clear HCell hck
                    go_wp2
                    go_ret3
                    exact ⟨by rw [HE.out]; rfl, rfl⟩

          · have hk9b : ((k : Int) == 9) = false := by simp; omega
            have hbig : k = 9 → xs.getD k 0 ≤ 1 := fun h => absurd h hk9'
            clear hk9'
            by_cases hk0 : 0 < k
            · by_cases h0 : xs.getD k 0 = 0
              · have HN : Hid (readN xs = none) := read_zero hlen hk9 hall hk0 h0
                have hc0b : (((xs.getD k 0 : Nat) : Int) == 0) = true := by rw [h0]; rfl
                clear h0 hbig hcell hall hlt
                generalize xs.getD k 0 = c at *
                go_wp2
                go_ret3
                exact ⟨by rw [HN.out]; rfl, rfl⟩
              · have hzer : 0 < k → xs.getD k 0 ≠ 0 := fun _ => h0
                have hc0b : (((xs.getD k 0 : Nat) : Int) == 0) = false := by simpa using h0
                clear h0
                have HE : Hid _ := read_ok hlen hk9 hall hc128 hbig hzer
                have HF : Hid _ := read_ok_fits hlen hk9 hall hc128 hbig hzer
                have hLl : Hid ((xs.take (k + 1)).length = k + 1) := by show _ = _; simp; omega
                clear hall hbig hzer
                generalize xs.getD k 0 = ck at *
                have HCell : Hid _ := hcell
                clear hcell
                go_wp2
                go_loop [6, 7] (fun t i => ∃ j : Nat, j ≤ k + 1 ∧ i = .int .i64 ((j : Int) - 1) ∧ t = .int .u64 (val ((xs.take (k + 1)).drop j) : Nat)) (fun _ i => (intOf i + 1).toNat)
                case atStart => exact ⟨k + 1, by omega, by go_num, by rw [List.drop_eq_nil_of_le (by rw [hLl.out]; exact Nat.le_refl _)]; rfl⟩
                case round =>
                  obtain ⟨j, hj, rfl, rfl⟩ := hrel
                  by_cases hj0 : 0 < j
                  · obtain ⟨t, rfl⟩ : ∃ t, j = t + 1 := ⟨j - 1, by omega⟩
                    rw [show ((t + 1 : Nat) : Int) - 1 = (t : Int) from by omega]
                    have htk : t ≤ k := by omega
                    have hct := HCell.out t (by omega)
                    have hb8t := getD_lt hlt t
                    have HV : Hid _ := val_drop xs k t htk (by omega)
                    have hv2 := val_fits (t := t) HF.out
                    rw [HV.out] at hv2
                    generalize val ((xs.take (k + 1)).drop (t + 1)) = q at *
                    generalize xs.getD t 0 = ct at *
                    clear HCell hck
                    go_wp2
                    go_round
                    case rel => exact ⟨t, by omega, by go_num, by rw [HV.out]; go_num⟩
                    case measure => simp [intOf]
                  · obtain rfl : j = 0 := by omega
                    rw [List.drop_zero]
                    rw [show (((0 : Nat) : Int) - 1) = -1 from by omega]
                    generalize val (xs.take (k + 1)) = q at *
                    clear HCell hck
                    go_wp2
                    go_ret3
                    exact ⟨by rw [HE.out]; rfl, rfl⟩
            · have hzer : 0 < k → xs.getD k 0 ≠ 0 := fun h => absurd h hk0
              have HE : Hid _ := read_ok hlen hk9 hall hc128 hbig hzer
              have HF : Hid _ := read_ok_fits hlen hk9 hall hc128 hbig hzer
              have hLl : Hid ((xs.take (k + 1)).length = k + 1) := by show _ = _; simp; omega
              clear hall hbig hzer
              generalize xs.getD k 0 = ck at *
              have HCell : Hid _ := hcell
              clear hcell
              go_wp2
              go_loop [6, 7] (fun t i => ∃ j : Nat, j ≤ k + 1 ∧ i = .int .i64 ((j : Int) - 1) ∧ t = .int .u64 (val ((xs.take (k + 1)).drop j) : Nat)) (fun _ i => (intOf i + 1).toNat)
              case atStart => exact ⟨k + 1, by omega, by go_num, by rw [List.drop_eq_nil_of_le (by rw [hLl.out]; exact Nat.le_refl _)]; rfl⟩
              case round =>
                obtain ⟨j, hj, rfl, rfl⟩ := hrel
                by_cases hj0 : 0 < j
                · obtain ⟨t, rfl⟩ : ∃ t, j = t + 1 := ⟨j - 1, by omega⟩
                  rw [show ((t + 1 : Nat) : Int) - 1 = (t : Int) from by omega]
                  have htk : t ≤ k := by omega
                  have hct := HCell.out t (by omega)
                  have hb8t := getD_lt hlt t
                  have HV : Hid _ := val_drop xs k t htk (by omega)
                  have hv2 := val_fits (t := t) HF.out
                  rw [HV.out] at hv2
                  generalize val ((xs.take (k + 1)).drop (t + 1)) = q at *
                  generalize xs.getD t 0 = ct at *
                  clear HCell hck
                  go_wp2
                  go_round
                  case rel => exact ⟨t, by omega, by go_num, by rw [HV.out]; go_num⟩
                  case measure => simp [intOf]
                · obtain rfl : j = 0 := by omega
                  rw [List.drop_zero]
                  rw [show (((0 : Nat) : Int) - 1) = -1 from by omega]
                  generalize val (xs.take (k + 1)) = q at *
                  clear HCell hck
                  go_wp2
                  go_ret3
                  exact ⟨by rw [HE.out]; rfl, rfl⟩

      · obtain rfl : k = 10 := by omega
        have HN : Hid (readN xs = none) := read_over (Nat.le_of_lt hlen) HA.out
        clear hcell hb hlt HA
        generalize xs.getD 10 0 = c at *
        go_wp2
        go_ret3
        exact ⟨by rw [HN.out]; rfl, rfl⟩
    · obtain rfl : k = xs.length := by omega
      have HN : Hid (readN xs = none) := by
        show _ = _
        rcases Nat.lt_or_ge xs.length 10 with h | h
        · exact read_end (by omega) HA.out
        · exact read_over h (fun i hi => HA.out i (by omega))
      clear hb hlt HA
      go_wp2
      go_ret3
      exact ⟨by rw [HN.out]; rfl, rfl⟩
end Go.Proofs.YthifpelappedcaaGreatDoor
namespace Go.Proofs.YthifpelappedcaaGreatDoor
open Go.RowKit Go.WideShapes


theorem refRead_some (p : Option Addr) (len cap : Nat) (xs : List Nat) (w : World) (n k : Nat) (hlen : len = xs.length) (hb : BIn w p xs) (hm : xs.length ≤ maxLen) (hr : readN xs = some (n, k)) :
    Calls Tryz.prog 112 #[.slice p len cap] w fun e w' => e = .returned (.tuple #[.int .u64 n, .int .i64 k, .int .i64 0]) ∧ w' = w := by
  subst hlen
  refine (refRead_any p cap xs w hb hm).mono fun e w' h => ⟨?_, h.2⟩
  rw [h.1, hr]; rfl
theorem refRead_none (p : Option Addr) (len cap : Nat) (xs : List Nat) (w : World) (hlen : len = xs.length) (hb : BIn w p xs) (hm : xs.length ≤ maxLen) (hr : readN xs = none) :
    Calls Tryz.prog 112 #[.slice p len cap] w fun e w' => e = .returned (.tuple #[.int .u64 0, .int .i64 0, .int .i64 8]) ∧ w' = w := by
  subst hlen
  refine (refRead_any p cap xs w hb hm).mono fun e w' h => ⟨?_, h.2⟩
  rw [h.1, hr]; rfl
set_option maxHeartbeats 400000 in
theorem refCut_none (p : Option Addr) (cap : Nat) (xs : List Nat) (w : World) (hb : BIn w p xs) (hm : xs.length ≤ maxLen) (hr : readN xs = none) :
    Calls Tryz.prog 65 #[.slice p xs.length cap] w fun e w' => e = .returned (.tuple #[.string ByteArray.empty, .slice none 0 0, .int .i64 8]) ∧ w' = w := by
  have HR : Hid _ := hr
  clear hr
  go_enter Tryz.func65, Tryz.ntmps65
  go_wp2_with fail
  refine (refRead_none p xs.length cap xs w rfl hb hm HR.out).mono ?_
  rintro e w1 ⟨rfl, rfl⟩
  go_wp2
  go_ret3
  exact ⟨rfl, rfl⟩
set_option maxHeartbeats 400000 in
theorem refCut_long (p : Option Addr) (cap : Nat) (xs : List Nat) (w : World) (hb : BIn w p xs) (hm : xs.length ≤ maxLen) (n k : Nat) (hr : readN xs = some (n, k)) (hl : xs.length < k + n) :
    Calls Tryz.prog 65 #[.slice p xs.length cap] w fun e w' => e = .returned (.tuple #[.string ByteArray.empty, .slice none 0 0, .int .i64 8]) ∧ w' = w := by
  obtain ⟨k1, k2, k3, k4⟩ := readN_some hr
  have hm' := hm
  unfold maxLen at hm'
  have HR : Hid _ := hr
  clear hr
  go_enter Tryz.func65, Tryz.ntmps65
  go_wp2_with fail
  refine (refRead_some p xs.length cap xs w n k rfl hb hm HR.out).mono ?_
  rintro e w1 ⟨rfl, rfl⟩
  clear HR hb
  go_wp2
  go_ret3
  exact ⟨rfl, rfl⟩
set_option maxHeartbeats 400000 in
theorem refCut_ok (p : Option Addr) (cap : Nat) (xs : List Nat) (w : World) (hb : BIn w p xs) (hm : xs.length ≤ 100000) (hcap : xs.length ≤ cap) (n k : Nat) (hr : readN xs = some (n, k)) (hl : k + n ≤ xs.length) :
    Calls Tryz.prog 65 #[.slice p xs.length cap] w fun e w' => ∃ v, e = .returned (.tuple #[.string (strOf ((xs.drop k).take n)), v, .int .i64 0]) ∧ w'.ownsRow w.heap.size 5 1 v (xs.drop (k + n)).length (Bs (xs.drop (k + n))) ∧ Below w.heap.size w w' := by
  obtain ⟨k1, k2, k3, k4⟩ := readN_some hr
  obtain ⟨b, o, rfl, hc⟩ := hb.1 (by omega)
  have HR : Hid _ := hr
  clear hr hc
  have hm' : xs.length ≤ maxLen := by unfold maxLen; omega
  have q1 : (0 : Int) ≤ (k : Int) + n ∧ (k : Int) + n ≤ cap := by omega
  have q2 : ((k : Int) + n).toNat = k + n := by omega
  have q3 : k ≤ k + n := by omega
  have q4 : (k : Int) + n ≤ xs.length := by omega
  have B1 := bin_part hb cap k hcap n
  have B2 := bin_part hb cap (k + n) hcap xs.length
  have e2 : Hid ((xs.drop (k + n)).take xs.length = xs.drop (k + n)) := List.take_of_length_le (by simp)
  rw [e2.out] at B2
  have L1 : Hid (n = ((xs.drop k).take n).length) := by show _ = _; simp; omega
  have L2 : Hid (xs.length - (k + n) = (xs.drop (k + n)).length) := by show _ = _; simp
  obtain ⟨A1, hA1⟩ : ∃ A, (if cap = k then some (⟨b, o, none⟩ : Addr) else some ⟨b, o + k, none⟩) = A := ⟨_, rfl⟩
  obtain ⟨A2, hA2⟩ : ∃ A, (if cap = k + n then some (⟨b, o, none⟩ : Addr) else some ⟨b, o + (k + n), none⟩) = A := ⟨_, rfl⟩
  rw [hA1] at B1
  rw [hA2] at B2
  have HB1 : Hid _ := B1
  have HB2 : Hid _ := B2
  have P2 : Hid (A2 = none → cap - (k + n) = 0) := by show _ → _; intro h; rw [h] at hA2; split at hA2 <;> cases hA2
  have Z2 : Hid (([] : List Nat).length + (xs.drop (k + n)).length ≤ 140737488355328) := by show _ ≤ _; simp; omega
  have HI : Hid (BIn w (some ⟨b, o, none⟩) xs) := hb
  clear B1 B2 hb
  go_enter Tryz.func65, Tryz.ntmps65
  go_wp2_with fail
  refine (refRead_some _ xs.length cap xs w n k rfl HI.out hm' HR.out).mono ?_
  rintro e w1 ⟨rfl, rfl⟩
  clear HR hm'
  go_wp2_with (at_builtin; refine wpList_append_bytes _ rfl _ _ rfl w1.heap.size _ [] (xs.drop (k + n)) A2 _ _ rfl rfl L2.out (World.ownsRow_nil _ _ _ _) HB2.out P2.out Z2.out (Nat.le_refl _) ?_)
  intro v' w2 hown hgrow
  have hbl : Below w1.heap.size w1 w2 := (Below.refl w1.heap.size w1).grown hgrow (Nat.le_refl _) (fun k hk => by simp [Value.ownBlock] at hk)
  have cv1 := conv_at (c := cap - k) (BIn.below HB1.out hbl) L1.out
  have HO : Hid (w2.ownsRow w1.heap.size 5 1 v' (xs.drop (k + n)).length (Bs (xs.drop (k + n)))) := by show World.ownsRow _ _ _ _ _ _ _; simpa using hown
  clear hown hgrow
  go_wp2
  go_ret3
  exact ⟨v', rfl, HO.out, hbl⟩
end Go.Proofs.YthifpelappedcaaGreatDoor
namespace Go.Proofs.YthifpelappedcaaGreatDoor.Rm
open Go.RowKit Go.WideShapes

def eqP (x y : Int × Int) : Bool := x.1 == y.1 && x.2 == y.2
theorem eqP_iff {x y : Int × Int} : eqP x y = true ↔ x = y := by
  unfold eqP
  simp only [Bool.and_eq_true, beq_iff_eq]
  exact ⟨fun h => Prod.ext h.1 h.2, fun h => by rw [h]; exact ⟨rfl, rfl⟩⟩
theorem neq_piece (a b c d : Int) (w : World) : Sem.run Tryz.prog (binOp .neq 53 (.agg #[.int .i64 a, .int .i64 b]) (.agg #[.int .i64 c, .int .i64 d])) w = .ok (.bool (!eqP (a, b) (c, d))) w := by
  have u3 := Tryz.underlying3
  have a3 := Tryz.isAgg3
  have z3 := Tryz.sizeOf3
  have hS : Tryz.prog.underlying 53 = some (.struct (Tryz.prog.fieldsOf 53)) := by kernel_rfl
  have hp : Tryz.prog.stoodInHeld 53 = false := by kernel_rfl
  rw [run_neq_struct, show (10000 : Nat) = 9999 + 1 from rfl, run_equalIn_agg w 9999 53 _ _ hS hp]
  simp only [Program.fieldsOf, Tryz.underlying53]
  go_simp
  by_cases h1 : a = c <;> by_cases h2 : b = d <;> simp [eqP, h1, h2]
def EqK (a b : Pcs) (k : Nat) : Prop := ∀ i, i < k → a.getD i (0, 0) = b.getD i (0, 0)
theorem EqK.step {a b : Pcs} {k : Nat} (h : EqK a b k) (h1 : a.getD k (0, 0) = b.getD k (0, 0)) : EqK a b (k + 1) := by
  intro i hi
  rcases Nat.lt_or_ge i k with h' | h'
  · exact h i h'
  · obtain rfl : i = k := by omega
    exact h1
theorem EqK.eq {a b : Pcs} (hl : a.length = b.length) (h : EqK a b a.length) : a = b := by
  refine List.ext_getElem hl fun i h1 h2 => ?_
  have := h i h1
  rwa [getD_eq h1, getD_eq h2] at this
def sameB (a b : Pcs) : Bool := decide (a = b)
theorem sameB_yes {a b : Pcs} (h : a = b) : sameB a b = true := decide_eq_true h
theorem sameB_no {a b : Pcs} (h : a ≠ b) : sameB a b = false := decide_eq_false h

end Go.Proofs.YthifpelappedcaaGreatDoor.Rm
namespace Go.Proofs.YthifpelappedcaaGreatDoor.Rm
open Go.RowKit Go.WideShapes

set_option maxHeartbeats 1000000 in
theorem rsame_any (va vb : Value) (a b : Pcs) (w : World) (ha : PIn w va a) (hb : PIn w vb b) :
    Calls Tryz.prog 66 #[va, vb] w fun e w' => e = .returned (.bool (sameB a b)) ∧ Below w.heap.size w w' := by
  obtain ⟨qa, ca, rfl, hqa, hla, hma, _⟩ := ha.lies
  obtain ⟨qb, cb, rfl, hqb, hlb, hmb, _⟩ := hb.lies
  have hneq := neq_piece
  unfold maxLen at hma hmb
  clear ha hb
  by_cases h1 : a.length = b.length
  · have hll : ((a.length : Int) != (b.length : Int)) = false := by simp [h1]
    go_enter Tryz.func66, Tryz.ntmps66
    go_wp2
    go_loopw [5] (fun i wr => ∃ k : Nat, k ≤ a.length ∧ i = .int .i64 k ∧ EqK a b k ∧ Below w.heap.size w wr) (fun i _ => a.length - (intOf i).toNat)
    case atStart => exact ⟨0, by omega, rfl, fun i hi => absurd hi (by omega), Below.refl _ _⟩
    case round =>
      obtain ⟨k, hk, rfl, heq, hbel⟩ := hrel
      have HE : Hid (EqK a b k) := heq
      clear heq
      by_cases hkl : k < a.length
      · obtain ⟨ba, oa, rfl⟩ := hqa.addr (by omega)
        obtain ⟨bb, ob, rfl⟩ := hqb.addr (by omega)
        obtain ⟨e1, e2⟩ := (hqa.below hbel).at hkl
        obtain ⟨f1, f2⟩ := (hqb.below hbel).at (k := k) (by omega)
        have hkb : k < b.length := by omega
        have HS := HE.out.step
        have HN : Hid (a.getD k (0, 0) ≠ b.getD k (0, 0) → sameB a b = false) := fun hne => sameB_no (fun e => hne (by rw [e]))
        clear hqa hqb
        generalize a.getD k (0, 0) = x at *
        generalize b.getD k (0, 0) = y at *
        obtain ⟨x1, x2⟩ := x
        obtain ⟨y1, y2⟩ := y
        have HS' : Hid _ := HS
        clear HS
        simp only at e1 e2 f1 f2
        have HBEL : Hid (∀ n, Below w.heap.size w (wr.drewN n)) := fun n => hbel.grown (grown_drew _ _ none) hbel.size (fun k hk => by cases hk)
        clear hbel
        by_cases g1 : (x1, x2) = (y1, y2)
        · have hq := eqP_iff.2 g1
          have HS2 : Hid (EqK a b (k + 1)) := HS'.out g1
          clear g1 HS' HN
          go_wp2
          go_quiet (fail)
          go_wp2
          go_roundw
          case rel => exact ⟨k + 1, by omega, by go_num, HS2.out, HBEL.out _⟩
          case measure => simp [intOf]; omega
        · have hq : eqP (x1, x2) (y1, y2) = false := by
            rw [← Bool.not_eq_true, eqP_iff]; exact g1
          have HN2 : Hid (sameB a b = false) := HN.out g1
          clear g1 HS' HN
          go_wp2
          go_quiet (fail)
          go_wp2
          go_ret
          exact ⟨by rw [HN2.out]; rfl, HBEL.out _⟩
      · obtain rfl : k = a.length := by omega
        have HS2 : Hid (sameB a b = true) := sameB_yes (HE.out.eq h1)
        clear HE hqa hqb
        go_wp2
        go_ret
        exact ⟨by rw [HS2.out]; rfl, hbel⟩
  · have hll : ((a.length : Int) != (b.length : Int)) = true := by simp; omega
    have HS2 : Hid (sameB a b = false) := sameB_no (fun e => h1 (by rw [e]))
    go_enter Tryz.func66, Tryz.ntmps66
    go_wp2
    go_ret
    exact ⟨by rw [HS2.out]; rfl, Below.refl _ _⟩
end Go.Proofs.YthifpelappedcaaGreatDoor.Rm
namespace Go.Proofs.YthifpelappedcaaGreatDoor.Rm
open Go.RowKit Go.WideShapes

theorem info_bool : (Tryz.prog.info? 4).map (fun i => (i.zero, i.size, i.bytes)) = some (some (.bool false), 1, 1) := by kernel_rfl
/-- Truth values, one a sector. -/
def bRow (P : Int → Bool) (n : Nat) : List Value := (List.range n).map fun i => .bool (P (i : Nat))
theorem bRow_len (P : Int → Bool) (n : Nat) : (bRow P n).length = n := by simp [bRow]
theorem bRow_at {P : Int → Bool} {n i : Nat} (h : i < n) : (bRow P n)[i]? = some (.bool (P (i : Nat))) := by simp [bRow, h]
theorem bRow_congr {P Q : Int → Bool} {n : Nat} (h : ∀ i : Nat, i < n → P i = Q i) : bRow P n = bRow Q n := by
  unfold bRow
  refine List.map_congr_left fun i hi => ?_
  rw [h i (by simpa using hi)]
theorem bRow_set {P Q : Int → Bool} {n k : Nat} (hk : k < n) (hq : Q k = true) (h : ∀ i : Nat, i ≠ k → Q i = P i) : (bRow P n).set k (.bool true) = bRow Q n := by
  apply List.ext_getElem?
  intro i
  rw [List.getElem?_set]
  by_cases e : k = i
  · subst e
    rw [if_pos rfl, bRow_at hk, hq, if_pos (by rw [bRow_len]; exact hk)]
  · rw [if_neg e]
    rcases Nat.lt_or_ge i n with h' | h'
    · rw [bRow_at h', bRow_at h', h i (fun e' => e e'.symm)]
    · rw [List.getElem?_eq_none (by rw [bRow_len]; exact h'), List.getElem?_eq_none (by rw [bRow_len]; exact h')]
theorem bRow_made (n : Nat) : (madeCells #[Value.bool false] n).toList = bRow (cov []) n := by
  rw [toList_madeCells_one]
  apply List.ext_getElem?
  intro i
  rcases Nat.lt_or_ge i n with h' | h'
  · rw [bRow_at h']; simp [h', cov]
  · rw [List.getElem?_eq_none (by simpa using h'), List.getElem?_eq_none (by rw [bRow_len]; exact h')]
/-- The row as it lies. -/
def BAt (w : World) (g : Nat) (P : Int → Bool) (n : Nat) : Prop := w.heap[g]? = some (.cells (bRow P n).toArray 4 (0, 0))
theorem BAt.cell {w : World} {g : Nat} {P : Int → Bool} {n i : Nat} (h : BAt w g P n) (hi : i < n) : w.cell? ⟨g, i, none⟩ = some (.bool (P (i : Nat))) := by
  rw [cell_of_row w g i _ _ _ h, List.getElem?_toArray, bRow_at hi]
theorem BAt.frozen {w : World} {g : Nat} {P : Int → Bool} {n i : Nat} (h : BAt w g P n) : w.frozen? ⟨g, i, none⟩ = false := frozen_of_row _ _ _ _ _ h
theorem BAt.below {w w' : World} {g : Nat} {P : Int → Bool} {n : Nat} (h : BAt w g P n) (hb : Below w.heap.size w w') : BAt w' g P n := (hb.block g (lt_heap h)).trans h
theorem BAt.grown {w w' : World} {g : Nat} {P : Int → Bool} {n : Nat} {r : Option Nat} (h : BAt w g P n) (hg : w.grownBy w' r) (hne : some g ≠ r) : BAt w' g P n := (hg.block g (lt_heap h) hne).trans h
theorem BAt.set {w : World} {g : Nat} {P Q : Int → Bool} {n k : Nat} (h : BAt w g P n) (hk : k < n) (hq : Q k = true) (hpq : ∀ i : Nat, i ≠ k → Q i = P i) : BAt (w.setCell ⟨g, k, none⟩ (.bool true)) g Q n := by
  unfold BAt
  rw [heap_setCell_same w g k _ _ _ h, ← bRow_set hk hq hpq]
  simp
def covJ (l : Pcs) (a : Int) (j : Nat) (n : Int) : Bool := cov l n || decide (a ≤ n ∧ n < a + (j : Nat))
theorem covJ_zero (l : Pcs) (a : Int) (n : Int) : covJ l a 0 n = cov l n := by
  unfold covJ
  rw [decide_eq_false (by omega), Bool.or_false]
theorem covJ_step {l : Pcs} {a : Int} {j : Nat} {n : Int} (h : n ≠ a + (j : Nat)) : covJ l a (j + 1) n = covJ l a j n := by
  unfold covJ
  congr 1
  rw [decide_eq_decide]
  omega
theorem covJ_new (l : Pcs) (a : Int) (j : Nat) (h : 0 ≤ (j : Int)) : covJ l a (j + 1) (a + (j : Nat)) = true := by
  unfold covJ
  rw [decide_eq_true (by omega), Bool.or_true]
theorem covJ_at (l : Pcs) (a : Int) (j : Nat) : covJ l a j (a + (j : Nat)) = cov l (a + (j : Nat)) := by
  unfold covJ
  rw [decide_eq_false (by omega), Bool.or_false]
theorem covJ_full (l : Pcs) (p : Int × Int) (hp : 0 ≤ p.2) (n : Int) : covJ l p.1 p.2.toNat n = cov (l ++ [p]) n := by
  rw [cov_append]
  unfold covJ
  congr 1
  simp only [cov, List.any_cons, List.any_nil, Bool.or_false, hasN]
  rw [decide_eq_decide]
  omega
theorem free_run {l : Pcs} {a : Int} {j : Nat} (h : ∀ i : Nat, i < j → cov l (a + (i : Nat)) = false) : ∀ n, a ≤ n → n < a + (j : Nat) → cov l n = false := by
  intro n h1 h2
  have := h (n - a).toNat (by omega)
  rwa [show a + ((n - a).toNat : Int) = n from by omega] at this
/-- What came out. -/
def TakenPost (count : Nat) (l : Pcs) (w : World) (e : Ending) (w' : World) : Prop :=
  (Good count l → ∃ g, e = .returned (.tuple #[.slice (some ⟨g, 0, none⟩) count count, .bool true]) ∧ BAt w' g (cov l) count ∧ w.heap.size ≤ g ∧ Below w.heap.size w w') ∧
  (¬ Good count l → e = .returned (.tuple #[.slice none 0 0, .bool false]) ∧ Below w.heap.size w w')
theorem takenPost_bad {count : Nat} {l : Pcs} {w w' : World} {e : Ending} (h : ¬ Good count l) (he : e = .returned (.tuple #[.slice none 0 0, .bool false])) (hb : Below w.heap.size w w') : TakenPost count l w e w' :=
  ⟨fun hg => absurd hg h, fun _ => ⟨he, hb⟩⟩
theorem not_good_snoc {count : Int} {l : Pcs} {k : Nat} (hk : k < l.length) {n : Int} (h1 : (l.getD k (0, 0)).1 ≤ n) (h2 : n < (l.getD k (0, 0)).1 + (l.getD k (0, 0)).2) (hc : cov (l.take k) n = true) : ¬ Good count l := by
  intro hg
  have := (hg.take (k + 1))
  rw [take_snoc (d := (0, 0)) hk] at this
  have := this.far n h1 h2
  rw [this] at hc
  cases hc

set_option maxRecDepth 4000 in
set_option maxHeartbeats 2000000 in
theorem taken_any (count : Nat) (v : Value) (l : Pcs) (w : World) (hl : PIn w v l) (hc : count ≤ 4096) :
    Calls Tryz.prog 116 #[.int .i64 count, v] w (TakenPost count l w) := by
  obtain ⟨q, c, rfl, hq, hlc, hcm, _⟩ := hl.lies
  have hwf := hl.wf
  clear hl
  unfold maxLen at hcm
  obtain ⟨i0, hi, hz0, hz1, hz2⟩ := info_parts' info_bool
  go_enter Tryz.func116, Tryz.ntmps116
  go_wp2_with (at_make; refine wpList_make_full _ rfl _ _ 89 rfl w.heap.size 4 i0 (.bool false) 1 Tryz.underlying89 hi hz0 hz1 .i64 .i64 _ _ count rfl rfl rfl rfl (by rw [hz2]; omega) (by unfold maxLen; omega) (Nat.le_refl _) ?_)
  intro w1 hown hgrow
  have hrow : Hid (BAt w1 w.heap.size (cov (l.take 0)) count) := by
    show BAt _ _ _ _
    have := row_full' hown
    rwa [bRow_made] at this
  have hb1 : Below w.heap.size w w1 := (Below.refl _ _).grown hgrow (Nat.le_refl _) (fun k hk => by cases hk)
  clear hown hgrow
  go_wp2
  go_loopw [7] (fun i wr => ∃ k : Nat, k ≤ l.length ∧ i = .int .i64 k ∧ Good count (l.take k) ∧ BAt wr w.heap.size (cov (l.take k)) count ∧ Below w.heap.size w wr) (fun i _ => l.length - (intOf i).toNat)
  case atStart => exact ⟨0, by omega, rfl, by simpa using good_nil _, hrow.out, hb1⟩
  case round =>
    clear hrow
    obtain ⟨k, hk, rfl, hgood, hat, hbel⟩ := hrel
    have HG : Hid (Good count (l.take k)) := hgood
    have HAT : Hid (BAt wr w.heap.size (cov (l.take k)) count) := hat
    clear hgood hat
    by_cases hkl : k < l.length
    · obtain ⟨b, o, rfl⟩ := hq.addr (by omega)
      obtain ⟨e1, e2⟩ := (hq.below hbel).at hkl
      obtain ⟨f1, f2⟩ := hwf.at hkl
      have HBAD := not_good_wn (k := k) (count := (count : Int)) hkl
      have HBAD' : Hid _ := HBAD
      have HNG : Hid (∀ n, (l.getD k (0, 0)).1 ≤ n → n < (l.getD k (0, 0)).1 + (l.getD k (0, 0)).2 → cov (l.take k) n = true → ¬ Good count l) := fun n h1 h2 h3 => not_good_snoc hkl h1 h2 h3
      have HTS : Hid (l.take (k + 1) = l.take k ++ [l.getD k (0, 0)]) := take_snoc hkl
      clear hq hwf HBAD
      generalize l.getD k (0, 0) = y at *
      obtain ⟨a, n⟩ := y
      simp only at e1 e2 f1 f2
      have HBEL : Hid (Below w.heap.size w wr) := hbel
      by_cases g1 : Wn count (a, n)
      · obtain ⟨g11, g12, g13⟩ := g1
        simp only at g11 g12 g13
        obtain ⟨m, rfl⟩ := Int.eq_ofNat_of_zero_le (show 0 ≤ n by omega)
        obtain ⟨a', rfl⟩ := Int.eq_ofNat_of_zero_le g11
        clear HBAD'
        have hsz := hbel.size
        clear hbel
        go_wp2
        have hbx := box2 (Below.refl (wr.heap.size + 1) (wr.alloc (.cells #[.int .i64 (a' : Int), .int .i64 (m : Int)] 53)))
        have hglt := lt_heap HAT.out
        have H0 : Hid (BAt (wr.alloc (.cells #[.int .i64 (a' : Int), .int .i64 (m : Int)] 53)) w.heap.size (covJ (l.take k) a' 0) count ∧ ((wr.alloc (.cells #[.int .i64 (a' : Int), .int .i64 (m : Int)] 53)).cell? ⟨wr.heap.size, 0, none⟩ = some (.int .i64 a') ∧ (wr.alloc (.cells #[.int .i64 (a' : Int), .int .i64 (m : Int)] 53)).cell? ⟨wr.heap.size, 1, none⟩ = some (.int .i64 m)) ∧ Below w.heap.size w (wr.alloc (.cells #[.int .i64 (a' : Int), .int .i64 (m : Int)] 53))) := by
          refine ⟨?_, hbx, HBEL.out.alloc hsz _⟩
          have := HAT.out.below (below_alloc wr (.cells #[.int .i64 (a' : Int), .int .i64 (m : Int)] 53))
          unfold BAt at this ⊢
          rw [this, bRow_congr (fun i _ => (covJ_zero _ _ _).symm)]
        have hBne : wr.heap.size ≠ w.heap.size := by omega
        clear hbx HAT HBEL hglt
        generalize wr.heap.size = B at *
        go_loopw [9] (fun i wq => ∃ j : Nat, j ≤ m ∧ i = .int .i64 ((a' + j : Nat) : Int) ∧ (∀ x : Nat, x < j → cov (l.take k) ((a' : Int) + (x : Nat)) = false) ∧ BAt wq w.heap.size (covJ (l.take k) a' j) count ∧ (wq.cell? ⟨B, 0, none⟩ = some (.int .i64 a') ∧ wq.cell? ⟨B, 1, none⟩ = some (.int .i64 m)) ∧ Below w.heap.size w wq) (fun i _ => a' + m - (intOf i).toNat)
        case atStart => exact ⟨0, by omega, rfl, fun x hx => absurd hx (by omega), H0.out.1, H0.out.2.1, H0.out.2.2⟩
        case round =>
          clear H0
          obtain ⟨j, hj, rfl, hfree, hat, ⟨c0, c1⟩, hbel⟩ := hrel
          have HF : Hid (∀ x : Nat, x < j → cov (l.take k) ((a' : Int) + (x : Nat)) = false) := hfree
          have HAT : Hid (BAt wr w.heap.size (covJ (l.take k) a' j) count) := hat
          clear hfree hat
          by_cases hjm : j < m
          · have hcell := HAT.out.cell (i := a' + j) (by omega)
            have hfz := HAT.out.frozen (i := a' + j)
            have hval : covJ (l.take k) a' j ((a' + j : Nat) : Int) = cov (l.take k) ((a' + j : Nat) : Int) := by
              have := covJ_at (l.take k) a' j
              rwa [← Int.natCast_add] at this
            rw [hval] at hcell
            have HNG2 := HNG.out ((a' + j : Nat) : Int) (by first | omega | (simp only; omega)) (by first | omega | (simp only; omega))
            have HNG3 : Hid _ := HNG2
            clear HNG2 hval
            cases hcv : cov (l.take k) ((a' + j : Nat) : Int) with
            | true =>
              have HB : Hid (¬ Good count l) := HNG3.out hcv
              rw [hcv] at hcell
              clear hcv HNG3 HNG HG HTS
              go_wp2
              go_ret2
              exact takenPost_bad HB.out rfl hbel
            | false =>
              rw [hcv] at hcell
              have R1 : Hid (BAt (wr.setCell ⟨w.heap.size, a' + j, none⟩ (.bool true)) w.heap.size (covJ (l.take k) a' (j + 1)) count) := by
                refine HAT.out.set (by omega) ?_ ?_
                · have := covJ_new (l.take k) a' j (by omega)
                  rwa [← Int.natCast_add] at this
                · intro i hi
                  exact covJ_step (by omega)
              have R2 : Hid (∀ x : Nat, x < j + 1 → cov (l.take k) ((a' : Int) + (x : Nat)) = false) := by
                intro x hx
                rcases Nat.lt_or_ge x j with h' | h'
                · exact HF.out x h'
                · obtain rfl : x = j := by omega
                  rwa [← Int.natCast_add]
              have R3 : Hid ((wr.setCell ⟨w.heap.size, a' + j, none⟩ (.bool true)).cell? ⟨B, 0, none⟩ = some (.int .i64 a') ∧ (wr.setCell ⟨w.heap.size, a' + j, none⟩ (.bool true)).cell? ⟨B, 1, none⟩ = some (.int .i64 m)) :=
                ⟨(World.cell?_of_block (a := ⟨B, 0, none⟩) (heap_setCell_other wr ⟨w.heap.size, a' + j, none⟩ B _ hBne)).trans c0, (World.cell?_of_block (a := ⟨B, 1, none⟩) (heap_setCell_other wr ⟨w.heap.size, a' + j, none⟩ B _ hBne)).trans c1⟩
              have R4 : Hid (Below w.heap.size w (wr.setCell ⟨w.heap.size, a' + j, none⟩ (.bool true))) := hbel.setCell (Nat.le_refl _) _
              clear HF HNG3 hcv HAT
              go_wp2
              go_roundw
              case rel => exact ⟨j + 1, by omega, by go_num, R2.out, R1.out, R3.out, R4.out⟩
              case measure => simp [intOf]; omega
          · obtain rfl : j = m := by omega
            have R1 : Hid (Good count (l.take (k + 1))) := by
              show Good _ _
              rw [HTS.out]
              exact HG.out.snoc ⟨by simp only; omega, by simp only; omega, by simp only; omega⟩ (free_run HF.out)
            have R2 : Hid (BAt wr w.heap.size (cov (l.take (k + 1))) count) := by
              have h := HAT.out
              show BAt _ _ _ _
              unfold BAt at h ⊢
              rw [h, HTS.out, bRow_congr (fun i _ => ?_)]
              have := covJ_full (l.take k) ((a' : Int), (j : Int)) (by simp only; omega) (i : Nat)
              simpa using this
            clear HF HAT HG HNG
            go_wp2
            go_roundw
            case rel => exact ⟨k + 1, by omega, by go_num, R1.out, R2.out, hbel⟩
            case measure => simp [intOf]; omega
      · have HB : Hid (¬ Good count l) := HBAD'.out g1
        clear HBAD' HNG HTS HG HAT
        by_cases k1 : n < 1
        · go_wp2
          go_ret2
          exact takenPost_bad HB.out rfl (HBEL.out.alloc HBEL.out.size _)
        · by_cases k2 : a < 0
          · go_wp2
            go_ret2
            exact takenPost_bad HB.out rfl (HBEL.out.alloc HBEL.out.size _)
          · by_cases k3 : (count : Int) ≤ a
            · go_wp2
              go_ret2
              exact takenPost_bad HB.out rfl (HBEL.out.alloc HBEL.out.size _)
            · have k4 : (count : Int) - a < n := by
                unfold Wn at g1
                simp only at g1
                omega
              go_wp2
              go_ret2
              exact takenPost_bad HB.out rfl (HBEL.out.alloc HBEL.out.size _)
    · obtain rfl : k = l.length := by omega
      have H1 : Hid (Good count l ∧ BAt wr w.heap.size (cov l) count) := by
        have h1 := HG.out
        have h2 := HAT.out
        rw [List.take_length] at h1 h2
        exact ⟨h1, h2⟩
      clear HG HAT hq
      go_wp2
      go_ret2
      exact ⟨fun _ => ⟨_, rfl, H1.out.2, Nat.le_refl _, hbel⟩, fun h => absurd H1.out.1 h⟩
end Go.Proofs.YthifpelappedcaaGreatDoor.Rm
