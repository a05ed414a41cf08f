/-
  Contract of the document's own answer Read.
-/
import Derived.Test.YtglcpfnpbcnejaaGreatDoorJ08
import Derived.Test.YtglcpfnpbcnejaaGreatDoorJ03
namespace Go.Proofs.YtglcpfnpbcnejaaGreatDoor
open Go.RowKit Go.WideShapes Go.Shelf Rm

/-- The program's variables that are read hold what the text lays. -/
structure Laid (w : World) : Prop where
  err : ErrT w
  tab : Lib.TabIs Tryz.prog w "internal/strconv.uint64pow10" .u64 Lib.pow10Tab
theorem g_pow : Tryz.prog.globalNamed "internal/strconv.uint64pow10" = some 2 := by kernel_rfl
theorem Laid.below {w w' : World} (h : Laid w) (hb : Below w.heap.size w w') : Laid w' := by
  refine ⟨h.err.below hb, ?_⟩
  have ht := h.tab
  unfold Lib.TabIs World.var? at ht ⊢
  rw [g_pow] at ht ⊢
  simp only [Option.bind_some] at ht ⊢
  have h2 : 2 < w.heap.size := by
    rcases Nat.lt_or_ge 2 w.heap.size with h | h
    · exact h
    · rw [Array.getElem?_eq_none h] at ht; cases ht
  rw [hb.block 2 h2]
  exact ht
theorem grow_below (w : World) (k : Nat) (os : Array Obj) : Below w.heap.size w (Sort.grow (w.drewN k) os) := by
  refine ⟨rfl, rfl, rfl, ?_, fun i hi => ?_⟩
  · show w.heap.size ≤ (w.heap ++ os).size
    simp
  · show (w.heap ++ os)[i]? = _
    rw [Array.getElem?_append_left hi]
theorem itoa_any (n : Nat) (hn : n < 9223372036854775808) (w : World) (hL : Laid w) :
    Calls Tryz.prog 148 #[.int .i64 n] w fun e w' => ∃ s, e = .returned (.string s) ∧ Below w.heap.size w w' := by
  refine (Any.strconv_Itoa laysItoa n (by omega) (by omega) w hL.tab).mono ?_
  rintro e w' ⟨rfl, k, os, rfl⟩
  exact ⟨_, rfl, grow_below _ _ _⟩
theorem digits_small : ∀ i, i < 100 → (Lib.decDigits i).length ≤ 2 := by decide +kernel
theorem itoa_small (n : Nat) (hn : n < 100) (w : World) :
    Calls Tryz.prog 148 #[.int .i64 n] w fun e w' => ∃ s : ByteArray, e = .returned (.string s) ∧ s.size ≤ 2 ∧ w' = w := by
  refine (Any.strconv_Itoa_small { laysItoa with } n hn w).mono ?_
  rintro e w' ⟨rfl, rfl⟩
  exact ⟨_, rfl, by have := digits_small n hn; show (Lib.decDigits n).toArray.size ≤ 2; simpa using this, rfl⟩
end Go.Proofs.YtglcpfnpbcnejaaGreatDoor
namespace Go.Proofs.YtglcpfnpbcnejaaGreatDoor
open Go.RowKit Go.WideShapes Rm

/-- The order of texts, byte by byte. -/
def ltS (a b : ByteArray) : Prop := Op.bytesLess a.toList b.toList = true
theorem FileIn.of {w : World} {b o k : Nat} {l : List FileV} {q : Option Addr} (h : FilesIn w q l) (hwf : ∀ f ∈ l, wf64 f.size) (hq : q = some ⟨b, o, none⟩) (hk : k < l.length) : ∃ pv, w.cell? ⟨b, o + k * 3, none⟩ = some (.string (l.getD k zeroF).name) ∧ w.cell? ⟨b, o + k * 3 + 1, none⟩ = some (.int .i64 (l.getD k zeroF).size) ∧ w.cell? ⟨b, o + k * 3 + 2, none⟩ = some pv ∧ FileIn w (.agg #[.string (l.getD k zeroF).name, .int .i64 (l.getD k zeroF).size, pv]) (l.getD k zeroF) := by
  subst hq
  obtain ⟨e0, e1, v, e2, hv⟩ := h.at hk
  exact ⟨v, e0, e1, e2, ⟨v, rfl, hv⟩, hwf _ (getD_mem' hk)⟩
theorem str_geq (a b : ByteArray) (w : World) : (binOp .geq 9 (.string a) (.string b)).run Tryz.prog w = .ok (.bool (!Op.bytesLess a.toList b.toList)) w := by simp [binOp, Op.stringOp]
theorem below_drewN {B : Nat} {a w : World} (h : Below B a w) (n : Nat) : Below B a (w.drewN n) := ⟨h.os, h.tape, h.output, h.size, h.block⟩
theorem FIn.wfp {w : World} {v : Value} {l : List FileV} (h : FIn w v l) : Wf (allPcs l) := by
  obtain ⟨q, c, _, hq, _⟩ := h.lies
  intro y hy
  obtain ⟨f, hf, hp⟩ := List.mem_flatMap.1 hy
  obtain ⟨i, hi, rfl⟩ := List.getElem_of_mem hf
  obtain ⟨b, o, _, hc⟩ := hq (by omega)
  obtain ⟨_, _, pv, _, hv⟩ := hc i hi
  rw [getD_eq hi] at hv
  exact hv.wf y hp
theorem each_of {l : List FileV} (h : ∀ j, j < l.length → FileOk (l.getD j zeroF)) : ∀ f ∈ l, FileOk f := by
  intro f hf
  obtain ⟨i, hi, rfl⟩ := List.getElem_of_mem hf
  have := h i hi
  rwa [getD_eq hi] at this
theorem ok_step {l : List FileV} {k : Nat} (h : ∀ j, j < k → FileOk (l.getD j zeroF)) (h1 : FileOk (l.getD k zeroF)) : ∀ j, j < k + 1 → FileOk (l.getD j zeroF) := by
  intro j hj
  rcases Nat.lt_or_ge j k with h' | h'
  · exact h j h'
  · obtain rfl : j = k := by omega
    exact h1
theorem Rises.of {l : List FileV} (h : ∀ j, j + 1 < l.length → ltS (l.getD j zeroF).name (l.getD (j + 1) zeroF).name) : Rises ltS l := h
theorem rise_step {l : List FileV} {k : Nat} (h : ∀ j, j + 1 < k + 1 → ltS (l.getD j zeroF).name (l.getD (j + 1) zeroF).name) (h1 : ltS (l.getD k zeroF).name (l.getD (k + 1) zeroF).name) : ∀ j, j + 1 < k + 1 + 1 → ltS (l.getD j zeroF).name (l.getD (j + 1) zeroF).name := by
  intro j hj
  rcases Nat.lt_or_ge j k with h' | h'
  · exact h j (by omega)
  · obtain rfl : j = k := by omega
    exact h1

set_option maxRecDepth 4000 in
set_option maxHeartbeats 2000000 in
theorem check4_any (v : Value) (x : DirV) (w : World) (hx : DirIn w v x) (hs : ∀ f ∈ x.files, (f.name.size : Int) ≤ 9223372036854775807) (hsum : (allPcs x.files).length ≤ 1000000) :
    Calls Tryz.prog 130 #[v] w fun e w' => ∃ r, e = .returned r ∧ NilOr8 (May ltS x) r ∧ Below w.heap.size w w' := by
  obtain ⟨fv, rfl, hf⟩ := hx.lies
  obtain ⟨gen, l⟩ := x
  have hgw := hx.wf
  unfold wf64 at hgw
  have HF : Hid (FIn w fv l) := hf
  obtain ⟨q, c, rfl, hq, hlc, hcm, hqn⟩ := hf.lies
  have hwf := hf.wf
  unfold maxLen at hcm
  simp only at hs hsum hlc hgw ⊢
  have HQ : Hid (FilesIn w q l) := hq
  have HWF : Hid (∀ f ∈ l, wf64 f.size) := hwf
  have HSZ : Hid (∀ f ∈ l, (f.name.size : Int) ≤ 9223372036854775807) := hs
  clear hq hqn hf hx hwf hs
  by_cases h1 : 1 ≤ gen ∧ gen < 4611686018427387904
  · by_cases h2 : l.length ≤ 32
    · go_enter Tryz.func130, Tryz.ntmps130
      go_wp2
      go_loopw [29] (fun i wr => ∃ k : Nat, k ≤ l.length ∧ i = .int .i64 k ∧ (∀ j, j + 1 < k → ltS (l.getD j zeroF).name (l.getD (j + 1) zeroF).name) ∧ Below (w.heap.size + 1) (w.alloc (.cells #[.int .i64 gen, .slice q l.length c] 31)) wr) (fun i _ => l.length - (intOf i).toNat)
      case atStart => exact ⟨0, by omega, rfl, fun j hj => absurd hj (by omega), Below.refl _ _⟩
      case round =>
        obtain ⟨k, hk, rfl, hrise, hbel⟩ := hrel
        have HR : Hid (∀ j, j + 1 < k → ltS (l.getD j zeroF).name (l.getD (j + 1) zeroF).name) := hrise
        clear hrise
        have hsz := hbel.size
        simp at hsz
        have hbw : Below w.heap.size w wr := box_below hbel
        have HBW : Hid (Below w.heap.size w wr) := hbw
        obtain ⟨d0, d1⟩ := box2 hbel
        by_cases hkl : k < l.length
        · obtain ⟨b, o, rfl⟩ := HQ.out.addr (by omega)
          obtain ⟨e0, e1, pv, e2, hp⟩ := (HQ.out.below hbw).at hkl
          obtain ⟨qp, cp, rfl, _⟩ := hp.lies
          rcases k with _ | k
          · clear HR
            clear hp
            generalize l.getD 0 zeroF = y at *
            obtain ⟨nm, sz, pl⟩ := y
            simp only [Nat.zero_mul, Nat.add_zero] at e0 e1 e2
            go_wp2
            go_quiet (fail)
            go_wp2
            go_roundw
            case rel => exact ⟨1, by omega, by go_num, fun j hj => absurd hj (by omega), below_drewN (hbel.alloc (by omega) _) _⟩
            case measure => simp [intOf]; omega
          · obtain ⟨p0, _⟩ := (HQ.out.below hbw).at (k := k) (by omega)
            have HST : Hid (ltS (l.getD k zeroF).name (l.getD (k + 1) zeroF).name → ∀ j, j + 1 < k + 1 + 1 → ltS (l.getD j zeroF).name (l.getD (j + 1) zeroF).name) := rise_step HR.out
            have HNO : Hid (¬ ltS (l.getD k zeroF).name (l.getD (k + 1) zeroF).name → ¬ May ltS ⟨gen, l⟩) := fun h hm => h (hm.rise k hkl)
            clear HR
            clear hp
            generalize l.getD (k + 1) zeroF = y at *
            generalize l.getD k zeroF = z at *
            obtain ⟨nm, sz, pl⟩ := y
            obtain ⟨nm0, sz0, pl0⟩ := z
            simp only at e0 e1 e2 p0
            have d1' : (wr.alloc (.cells #[.string nm, .int .i64 sz, .slice qp pl.length cp] 51)).cell? ⟨w.heap.size, 1, none⟩ = some (.slice (some ⟨b, o, none⟩) l.length c) := by rw [World.cell?_alloc_lt _ _ _ (by simp; omega)]; exact d1
            have p0' : (wr.alloc (.cells #[.string nm, .int .i64 sz, .slice qp pl.length cp] 51)).cell? ⟨b, o + k * 3, none⟩ = some (.string nm0) := by rw [World.cell?_alloc_lt _ _ _ (World.block_lt_of_cell? _ _ p0)]; exact p0
            have hgeq := str_geq
            by_cases g : ltS nm0 nm
            · have H2 : Hid _ := HST.out g
              unfold ltS at g
              clear HST HNO
              go_wp2
              go_quiet (fail)
              go_wp2
              go_roundw
              case rel => exact ⟨k + 1 + 1, by omega, by go_num, H2.out, below_drewN (hbel.alloc (by omega) _) _⟩
              case measure => simp [intOf]; omega
            · have H2 : Hid (¬ May ltS ⟨gen, l⟩) := HNO.out g
              unfold ltS at g
              simp only [Bool.not_eq_true] at g
              clear HST HNO
              go_wp2
              go_quiet (fail)
              go_wp2
              go_ret
              exact ⟨_, rfl, .inr ⟨H2.out, Faults.one _ _⟩, below_drewN (HBW.out.alloc HBW.out.size _) _⟩
        · obtain rfl : k = l.length := by omega
          have HRI : Hid (Rises ltS l) := HR.out
          have hpc := pieces_any _ l wr (HF.out.below hbw) hsum
          have HWP : Hid (Wf (allPcs l)) := HF.out.wfp
          have HBE : Hid _ := hbel
          clear HR hbel hbw
          go_wp2_with fail
          refine hpc.mono ?_
          rintro e w1 ⟨r1, rfl, ho1, hb1⟩
          have hck := Rm.check_any 4096 r1 (allPcs l) w1 (ho1.pin HWP.out)
          clear ho1
          have hsz1 := hb1.size
          go_wp2_with fail
          refine hck.mono ?_
          rintro e w2 ⟨rfl, hb2⟩
          have hsz2 := hb2.size
          have hbel2 : Below (w.heap.size + 1) (w.alloc (.cells #[.int .i64 gen, .slice q l.length c] 31)) w2 := (HBE.out.trans (hb1.mono hsz)).trans (hb2.mono (by omega))
          obtain ⟨d0, d1⟩ := box2 hbel2
          have HB2 : Hid (Below w.heap.size w w2) := box_below hbel2
          clear hpc hck hb1 hb2 HBE HBW
          by_cases h3 : errK 4096 (allPcs l) = 0
          · have HK : Hid (errK 4096 (allPcs l) = 0) := h3
            rw [h3]
            clear h3
            go_wp2
            go_loopw [63] (fun i wr => ∃ k : Nat, k ≤ l.length ∧ i = .int .i64 k ∧ (∀ j, j < k → FileOk (l.getD j zeroF)) ∧ Below (w.heap.size + 1) (w.alloc (.cells #[.int .i64 gen, .slice q l.length c] 31)) wr) (fun i _ => l.length - (intOf i).toNat)
            case atStart => exact ⟨0, by omega, rfl, fun j hj => absurd hj (by omega), hbel2⟩
            case round =>
              clear hbel2 d0 d1 HB2 hsz hsz1 hsz2
              obtain ⟨k, hk, rfl, hok, hbel⟩ := hrel
              have HOK : Hid (∀ j, j < k → FileOk (l.getD j zeroF)) := hok
              clear hok
              have hsz := hbel.size
              simp at hsz
              have hbw : Below w.heap.size w wr := box_below hbel
              have HBW : Hid (Below w.heap.size w wr) := hbw
              by_cases hkl : k < l.length
              · obtain ⟨b, o, rfl⟩ := HQ.out.addr (by omega)
                obtain ⟨e0, e1, pv, e2, hp⟩ := (HQ.out.below hbw).at hkl
                have hfin : FileIn wr (.agg #[.string (l.getD k zeroF).name, .int .i64 (l.getD k zeroF).size, pv]) (l.getD k zeroF) := ⟨⟨pv, rfl, hp⟩, HWF.out _ (getD_mem' hkl)⟩
                have hgood := (errK_zero HK.out).2.2
                have hcf := checkFile_any _ (l.getD k zeroF) _ (hfin.below (below_alloc wr (.cells #[.string (l.getD k zeroF).name, .int .i64 (l.getD k zeroF).size, pv] 51))) (HSZ.out _ (getD_mem' hkl))
                  (fun p hp => by have := hgood.wn p (mem_allPcs (getD_mem' hkl) hp); unfold Wn at this; omega) (by have := len_allPcs (getD_mem' (d := zeroF) hkl); omega)
                have HST : Hid (FileOk (l.getD k zeroF) → ∀ j, j < k + 1 → FileOk (l.getD j zeroF)) := ok_step HOK.out
                have HNO : Hid (¬ FileOk (l.getD k zeroF) → ¬ May ltS ⟨gen, l⟩) := fun h hm => h (hm.each _ (getD_mem' hkl))
                obtain ⟨qp, cp, rfl, _⟩ := hp.lies
                clear HOK hbw hgood hfin hp
                generalize l.getD k zeroF = y at *
                obtain ⟨nm, sz, pl⟩ := y
                simp only at e0 e1 e2 hcf
                go_wp2_with fail
                refine hcf.mono ?_
                rintro e w3 ⟨r, rfl, hr, hb3⟩
                have hsz3 := hb3.size
                simp at hsz3
                have HB3 : Hid (Below wr.heap.size wr w3) := (below_alloc wr _).trans (hb3.mono (by simp))
                clear hcf hb3
                rcases hr with ⟨hok, rfl⟩ | ⟨hno, hfl⟩
                · have H3 : Hid _ := HST.out hok
                  clear HST HNO
                  go_wp2
                  go_roundw
                  case rel => exact ⟨k + 1, by omega, by go_num, H3.out, hbel.trans (HB3.out.mono hsz)⟩
                  case measure => simp [intOf]; omega
                · have H3 : Hid (¬ May ltS ⟨gen, l⟩) := HNO.out hno
                  have HFL : Hid (Faults r 8) := hfl
                  obtain ⟨tx, vx, rfl⟩ := hfl.iface
                  clear HST HNO hfl hno
                  go_wp2_with (go_at_call 148; refine (itoa_small k (by omega) _).mono ?_; rintro e w4 ⟨st, rfl, hst, rfl⟩)
                  go_ret
                  exact ⟨_, rfl, .inr ⟨H3.out, .more _ HFL.out⟩, HBW.out.trans (HB3.out.mono HBW.out.size)⟩
              · obtain rfl : k = l.length := by omega
                have HM : Hid (May ltS ⟨gen, l⟩) := ⟨h1.1, h1.2, h2, HRI.out, HK.out, each_of HOK.out⟩
                clear HOK
                go_wp2
                go_ret
                exact ⟨_, rfl, .inl ⟨HM.out, rfl⟩, HBW.out⟩
          · have hne : (errK 4096 (allPcs l) != 0) = true := by simpa using h3
            have H3 : Hid (¬ May ltS ⟨gen, l⟩) := fun h => h3 h.pcs
            generalize errK 4096 (allPcs l) = E at *
            clear h3
            go_wp2
            go_ret
            exact ⟨_, rfl, .inr ⟨H3.out, Faults.one _ _⟩, HB2.out⟩
    · go_enter Tryz.func130, Tryz.ntmps130
      go_wp2
      go_ret
      exact ⟨_, rfl, .inr ⟨fun h => h2 h.many, Faults.one _ _⟩, below_alloc _ _⟩
  · go_enter Tryz.func130, Tryz.ntmps130
    go_wp2
    all_goals
      go_ret
      exact ⟨_, rfl, .inr ⟨fun h => h1 ⟨h.lo, h.hi⟩, Faults.one _ _⟩, below_alloc _ _⟩
end Go.Proofs.YtglcpfnpbcnejaaGreatDoor
namespace Go.Proofs.YtglcpfnpbcnejaaGreatDoor
open Go.RowKit Go.WideShapes


set_option maxHeartbeats 400000 in
set_option maxRecDepth 100000 in
theorem refSmall_any (n : Nat) (w : World) (hn : n < 18446744073709551616) :
    Calls Tryz.prog 115 #[.int .u64 n] w fun e w' => ∃ v, e = .returned v ∧ w'.ownsRow w.heap.size 5 1 v (smallN n).length (Bs (smallN n)) ∧ Below w.heap.size w w' := by
  obtain ⟨i0, hi, hz0, hz1, hz2⟩ := info_parts info5
  have hten := smallN_ten n hn
  go_enter Tryz.func115, Tryz.ntmps115
  go_wp2
  go_loopw [0, 3] (fun t v wr => ∃ m : Nat, ∃ xs : List Nat, m < 18446744073709551616 ∧ t = .int .u64 m ∧ smallN n = xs ++ smallN m ∧ wr.ownsRow w.heap.size 5 1 v xs.length (Bs xs) ∧ Below w.heap.size w wr)
    (fun t _ _ => (intOf t).toNat)
  case atStart => exact ⟨n, [], hn, rfl, rfl, World.ownsRow_nil _ _ _ _, Below.refl _ _⟩
  case round =>
    obtain ⟨m, xs, hm, rfl, hsm, hown, hnx⟩ := hrel
    have HS : Hid _ := hsm
    clear hsm
    have hpos := smallN_pos m
    have hxl : xs.length + (smallN m).length ≤ 10 := by rw [HS.out] at hten; simpa using hten
    have hsz := hnx.size
    by_cases hlt : m < 128
    · go_wp2_with (at_builtin; refine wpList_append_own _ rfl _ _ 22 rfl w.heap.size 5 i0 (.int .u8 0) 1 1 Tryz.underlying22 hi hz0 hz1 hz2 rfl (by decide) _ _ _ rfl (hown.alloc _) ⟨wr.heap.size, 0, none⟩ 1 1 [.int .u8 (m : Int)] rfl rfl (cell_one_new _ _ _) ?c2 ?c3 ?c4 ?c5 ?_)
      case c2 => intro u hu; simp at hu; subst hu; rfl
      case c3 => unfold maxLen; omega
      case c4 => omega
      case c5 => simp; omega
      intro v' w1 hown' hgrow _
      have R := rel_push rfl hown hnx hsz hown' hgrow
      have e : smallN n = xs ++ [m] := by rw [HS.out, smallN_lo hlt]
      rw [← e] at R
      clear hown' hgrow hown e
      go_wp2
      go_ret
      exact ⟨v', rfl, R.1, R.2⟩
    · go_wp2_with (at_builtin; refine wpList_append_own _ rfl _ _ 22 rfl w.heap.size 5 i0 (.int .u8 0) 1 1 Tryz.underlying22 hi hz0 hz1 hz2 rfl (by decide) _ _ _ rfl (hown.alloc _) ⟨wr.heap.size, 0, none⟩ 1 1 [.int .u8 ((m : Int) % 128 + 128)] rfl rfl (cell_one_new _ _ _) ?d2 ?d3 ?d4 ?d5 ?_)
      case d2 => intro u hu; simp at hu; subst hu; rfl
      case d3 => unfold maxLen; omega
      case d4 => omega
      case d5 => simp; omega
      intro v' w1 hown' hgrow _
      have R := rel_push (c := m % 128 + 128) (by omega) hown hnx hsz hown' hgrow
      have e : Hid (smallN n = (xs ++ [m % 128 + 128]) ++ smallN (m / 128)) := by show _ = _; rw [HS.out, smallN_hi hlt]; simp
      clear hown' hgrow hown
      go_wp2
      go_roundw
      case rel => exact ⟨m / 128, xs ++ [m % 128 + 128], by omega, by go_num, e.out, R.1, R.2⟩
      case measure => simp [intOf]; omega

set_option maxHeartbeats 400000 in
theorem refText_any (s : ByteArray) (w : World) (hs : s.size ≤ 100000) :
    Calls Tryz.prog 81 #[.string s] w fun e w' => ∃ v, e = .returned v ∧ w'.ownsRow w.heap.size 5 1 v (textN s).length (Bs (textN s)) ∧ Below w.heap.size w w' := by
  obtain ⟨i0, hi, hz0, hz1, hz2⟩ := info_parts info5
  have hten := smallN_ten s.size (by omega)
  go_enter Tryz.func81, Tryz.ntmps81
  go_wp2_with fail
  refine (refSmall_any s.size w (by omega)).mono ?_
  rintro e w1 ⟨v, rfl, hown, hb⟩
  have hsz := hb.size
  go_wp2_with (at_builtin; refine Lib.wpList_append_own_string _ rfl _ _ 22 9 rfl w.heap.size 5 i0 Tryz.underlying22 Tryz.underlying9 hi hz0 hz1 hz2 _ _ _ rfl hown s rfl ?c3 ?c4 hsz ?_)
  case c3 => unfold maxLen; omega
  case c4 => omega
  intro v' w2 hown' hgrow _
  have R : w2.ownsRow w.heap.size 5 1 v' (textN s).length (Bs (textN s)) := by simpa [textN, numsOf_len, Bs_app, strCells_Bs] using hown'
  have hb2 := hb.grown hgrow hsz (fun k hk => (hown.lt k hk).1)
  clear hown' hgrow hown
  go_wp2
  go_ret
  exact ⟨v', rfl, R, hb2⟩

/-- The lowest k bytes of a number. -/
def putK : Nat → Nat → List Nat
  | 0, _ => []
  | k + 1, m => (m % 256) :: putK k (m / 256)
theorem putK_8 (n : Nat) (h : n < 18446744073709551616) : putK 8 n = putN n := by
  simp only [putK, putN, Nat.div_div_eq_div_mul, Nat.reduceMul]
  have : n / 72057594037927936 % 256 = n / 72057594037927936 := by omega
  rw [this]
theorem putK_step (k m : Nat) (h : k < 8) : putK (8 - k) m = (m % 256) :: putK (8 - (k + 1)) (m / 256) := by
  rw [show 8 - k = (8 - (k + 1)) + 1 from by omega]; rfl

set_option maxHeartbeats 400000 in
set_option maxRecDepth 100000 in
theorem refPut_any (n : Nat) (w : World) (hn : n < 18446744073709551616) :
    Calls Tryz.prog 82 #[.int .u64 n] w fun e w' => ∃ v, e = .returned v ∧ w'.ownsRow w.heap.size 5 1 v 8 (Bs (putN n)) ∧ Below w.heap.size w w' := by
  obtain ⟨i0, hi, hz0, hz1, hz2⟩ := info_parts info5
  have HP : Hid (putK 8 n = putN n) := putK_8 n hn
  go_enter Tryz.func82, Tryz.ntmps82
  go_wp2
  go_loopw [0, 3, 4] (fun t v i wr => ∃ k m : Nat, ∃ xs : List Nat, k ≤ 8 ∧ m < 18446744073709551616 ∧ t = .int .u64 m ∧ i = .int .i64 k ∧ xs.length = k ∧ putN n = xs ++ putK (8 - k) m ∧ wr.ownsRow w.heap.size 5 1 v xs.length (Bs xs) ∧ Below w.heap.size w wr)
    (fun _ _ i _ => 8 - (intOf i).toNat)
  case atStart => exact ⟨0, n, [], by omega, hn, rfl, rfl, rfl, HP.out.symm, World.ownsRow_nil _ _ _ _, Below.refl _ _⟩
  case round =>
    obtain ⟨k, m, xs, hk, hm, rfl, rfl, hxk, hsm, hown, hnx⟩ := hrel
    have HS : Hid _ := hsm
    have HX : Hid (xs.length = k) := hxk
    have hxl : xs.length ≤ 8 := by omega
    clear hsm hxk
    have hsz := hnx.size
    by_cases hlt : k < 8
    · have HK : Hid _ := putK_step k m hlt
      go_wp2_with (at_builtin; refine wpList_append_own _ rfl _ _ 22 rfl w.heap.size 5 i0 (.int .u8 0) 1 1 Tryz.underlying22 hi hz0 hz1 hz2 rfl (by decide) _ _ _ rfl (hown.alloc _) ⟨wr.heap.size, 0, none⟩ 1 1 [.int .u8 ((m : Int) % 256)] rfl rfl (cell_one_new _ _ _) ?d2 ?d3 ?d4 ?d5 ?_)
      case d2 => intro u hu; simp at hu; subst hu; rfl
      case d3 => unfold maxLen; omega
      case d4 => omega
      case d5 => simp; omega
      intro v' w1 hown' hgrow _
      have R := rel_push (c := m % 256) (by omega) hown hnx hsz hown' hgrow
      have e : Hid (putN n = (xs ++ [m % 256]) ++ putK (8 - (k + 1)) (m / 256)) := by show _ = _; rw [HS.out, HK.out]; simp
      clear hown' hgrow hown
      go_wp2
      go_roundw
      case rel => exact ⟨k + 1, m / 256, xs ++ [m % 256], by omega, by omega, by go_num, by go_num, by simp [HX.out], e.out, R.1, R.2⟩
      case measure => simp [intOf]; omega
    · have e : putN n = xs ∧ xs.length = 8 := by
        have h8 : k = 8 := by omega
        refine ⟨?_, by rw [HX.out, h8]⟩
        rw [HS.out, h8]; simp [putK]
      rw [e.2, ← e.1] at hown
      clear e
      have HO : Hid _ := hown
      clear hown
      go_wp2
      go_ret
      exact ⟨_, rfl, HO.out, hnx⟩

theorem ret_two {a b : Int} {k1 k2 : IntKind} {c : Int} (h : a = b) : Ending.returned (.tuple #[.int k1 a, .int k2 c]) = .returned (.tuple #[.int k1 b, .int k2 c]) := by rw [h]
set_option maxHeartbeats 1000000 in
theorem refGet_ok (p : Option Addr) (c : Nat) (a0 a1 a2 a3 a4 a5 a6 a7 : Nat) (w : World) (hb : BIn w p [a0, a1, a2, a3, a4, a5, a6, a7]) :
    Calls Tryz.prog 91 #[.slice p 8 c] w fun e w' => e = .returned (.tuple #[.int .u64 (joinN a0 a1 a2 a3 a4 a5 a6 a7 : Nat), .int .i64 0]) ∧ w' = w := by
  obtain ⟨b, o, rfl, hc⟩ := hb.1 (by simp)
  have c0 : w.cell? ⟨b, o, none⟩ = some (.int .u8 a0) := hc 0 (by simp)
  have c1 : w.cell? ⟨b, o + 1, none⟩ = some (.int .u8 a1) := hc 1 (by simp)
  have c2 : w.cell? ⟨b, o + 2, none⟩ = some (.int .u8 a2) := hc 2 (by simp)
  have c3 : w.cell? ⟨b, o + 3, none⟩ = some (.int .u8 a3) := hc 3 (by simp)
  have c4 : w.cell? ⟨b, o + 4, none⟩ = some (.int .u8 a4) := hc 4 (by simp)
  have c5 : w.cell? ⟨b, o + 5, none⟩ = some (.int .u8 a5) := hc 5 (by simp)
  have c6 : w.cell? ⟨b, o + 6, none⟩ = some (.int .u8 a6) := hc 6 (by simp)
  have c7 : w.cell? ⟨b, o + 7, none⟩ = some (.int .u8 a7) := hc 7 (by simp)
  have hl := hb.2
  simp only [List.mem_cons, List.not_mem_nil, or_false, forall_eq_or_imp, forall_eq] at hl
  obtain ⟨l0, l1, l2, l3, l4, l5, l6, l7⟩ := hl
  clear hb hc
  go_enter Tryz.func91, Tryz.ntmps91
  go_wp2
  refine wp_loop_rounds 9 ?_
  iterate 9 (rw [rounds_succ]; go_wp2)
  go_ret2
  refine ⟨ret_two ?_, rfl⟩
  unfold joinN; omega
end Go.Proofs.YtglcpfnpbcnejaaGreatDoor
namespace Go.Proofs.YtglcpfnpbcnejaaGreatDoor
open Go.RowKit Go.WideShapes


/-- The number of bytes, seven bits each, the lowest first. -/
def val : List Nat → Nat
  | [] => 0
  | c :: l => c % 128 + 128 * val l
theorem val_snoc (l : List Nat) (c : Nat) : val (l ++ [c]) = c % 128 * 2 ^ (7 * l.length) + val l := by
  induction l with
  | nil => simp [val]
  | cons a l ih =>
    rw [List.cons_append, val, val, ih, List.length_cons, show 7 * (l.length + 1) = 7 * l.length + 7 from by omega, Nat.pow_add]
    generalize 2 ^ (7 * l.length) = X
    rw [show 128 * (c % 128 * X + val l) = c % 128 * (X * 2 ^ 7) + 128 * val l from by rw [Nat.mul_add, ← Nat.mul_assoc, Nat.mul_comm 128 (c % 128), Nat.mul_assoc, Nat.mul_comm 128 X]]
    omega
theorem take_at (xs : List Nat) (k : Nat) (h : k < xs.length) : xs.take (k + 1) = xs.take k ++ [xs.getD k 0] := by
  rw [List.take_succ_eq_append_getElem h]; simp [List.getD, List.getElem?_eq_getElem h]
theorem val_take (xs : List Nat) (k : Nat) (h : k < xs.length) : val (xs.take (k + 1)) = xs.getD k 0 % 128 * 2 ^ (7 * k) + val (xs.take k) := by
  rw [take_at xs k h, val_snoc, List.length_take, Nat.min_eq_left (by omega)]
theorem val_drop (xs : List Nat) (k t : Nat) (h : t ≤ k) (hk : k < xs.length) : val ((xs.take (k + 1)).drop t) = xs.getD t 0 % 128 + 128 * val ((xs.take (k + 1)).drop (t + 1)) := by
  have hl : t < (xs.take (k + 1)).length := by simp; omega
  rw [List.drop_eq_getElem_cons hl, val]
  congr 1
  simp [List.getD, List.getElem?_eq_getElem (show t < xs.length from by omega)]
theorem val_drop_le (l : List Nat) (t : Nat) : val (l.drop t) ≤ val l := by
  induction l generalizing t with
  | nil => simp
  | cons a l ih =>
    cases t with
    | zero => simp
    | succ t => rw [List.drop_succ_cons, val]; have := ih t; omega
theorem val_fits {l : List Nat} {t : Nat} (h : val l < 18446744073709551616) : val (l.drop t) < 18446744073709551616 := Nat.lt_of_le_of_lt (val_drop_le l t) h
theorem read_skip {xs : List Nat} (j : Nat) (hj : j ≤ 9) (hlen : j ≤ xs.length) (hall : ∀ i, i < j → 128 ≤ xs.getD i 0) : readN xs = readAux j (val (xs.take j)) (xs.drop j) := by
  induction j with
  | zero => simp [val, readN]
  | succ j ih =>
    rw [ih (by omega) (by omega) (fun i hi => hall i (by omega)), drop_at xs j (by omega), aux_hi (by omega) (hall j (by omega)), val_take xs j (by omega)]
theorem read_over {xs : List Nat} (hlen : 10 ≤ xs.length) (hall : ∀ i, i < 10 → 128 ≤ xs.getD i 0) : readN xs = none := by
  have := hall 9 (by omega)
  rw [read_skip 9 (by omega) (by omega) (fun i hi => hall i (by omega)), drop_at xs 9 (by omega), aux_big ⟨rfl, by omega⟩]
theorem read_end {xs : List Nat} (hlen : xs.length ≤ 9) (hall : ∀ i, i < xs.length → 128 ≤ xs.getD i 0) : readN xs = none := by
  rw [read_skip xs.length hlen (by omega) hall, List.drop_length]; rfl
theorem read_big {xs : List Nat} (hlen : 9 < xs.length) (hall : ∀ i, i < 9 → 128 ≤ xs.getD i 0) (h : 1 < xs.getD 9 0) : readN xs = none := by
  rw [read_skip 9 (by omega) (by omega) hall, drop_at xs 9 hlen, aux_big ⟨rfl, h⟩]
theorem read_zero {xs : List Nat} {k : Nat} (hlen : k < xs.length) (hk : k ≤ 9) (hall : ∀ i, i < k → 128 ≤ xs.getD i 0) (h0 : 0 < k) (h : xs.getD k 0 = 0) : readN xs = none := by
  rw [read_skip k hk (by omega) hall, drop_at xs k hlen, aux_zero (by omega) (by omega) ⟨h, h0⟩]
theorem read_ok {xs : List Nat} {k : Nat} (hlen : k < xs.length) (hk : k ≤ 9) (hall : ∀ i, i < k → 128 ≤ xs.getD i 0) (hc : xs.getD k 0 < 128) (hbig : k = 9 → xs.getD k 0 ≤ 1) (hz : 0 < k → xs.getD k 0 ≠ 0) : readN xs = some (val (xs.take (k + 1)), k + 1) := by
  rw [read_skip k hk (by omega) hall, drop_at xs k hlen, aux_end (by omega) (by omega) (by omega), val_take xs k hlen]
theorem read_ok_fits {xs : List Nat} {k : Nat} (hlen : k < xs.length) (hk : k ≤ 9) (hall : ∀ i, i < k → 128 ≤ xs.getD i 0) (hc : xs.getD k 0 < 128) (hbig : k = 9 → xs.getD k 0 ≤ 1) (hz : 0 < k → xs.getD k 0 ≠ 0) : val (xs.take (k + 1)) < 18446744073709551616 :=
  (readN_some (read_ok hlen hk hall hc hbig hz)).2.2.2

set_option maxHeartbeats 2000000 in
set_option maxRecDepth 100000 in
theorem refRead_any (p : Option Addr) (cap : Nat) (xs : List Nat) (w : World) (hb : BIn w p xs) (hm : xs.length ≤ maxLen) :
    Calls Tryz.prog 171 #[.slice p xs.length cap] w fun e w' => e = .returned (readV (readN xs)) ∧ w' = w := by
  unfold maxLen at hm
  have hlt := hb.2
  go_enter Tryz.func171, Tryz.ntmps171
  go_wp2
  go_loop [5] (fun i => ∃ k : Nat, k ≤ xs.length ∧ k ≤ 10 ∧ i = .int .i64 k ∧ ∀ i, i < k → 128 ≤ xs.getD i 0) (fun i => xs.length - (intOf i).toNat)
  case atStart => exact ⟨0, by omega, by omega, rfl, by intro i hi; omega⟩
  case round =>
    obtain ⟨k, hk, hk10, rfl, hall⟩ := hrel
    have HA : Hid (∀ i, i < k → 128 ≤ xs.getD i 0) := hall
    clear hall
    by_cases hlen : k < xs.length
    · obtain ⟨b, o, rfl, hcell⟩ := hb.1 (by omega)
      have hck := hcell k hlen
      have hb8 := getD_lt hlt k
      by_cases h10 : k < 10
      · by_cases hc128 : 128 ≤ xs.getD k 0
        · have HC : Hid (128 ≤ xs.getD k 0) := hc128
          generalize hcd : xs.getD k 0 = c at *
          have HCD : Hid _ := hcd
          clear hcd hcell hb hlt
          go_wp2
          go_round
          case rel => exact ⟨k + 1, by omega, by omega, by go_num, fun i hi => by
            rcases Nat.lt_or_ge i k with h | h
            · exact HA.out i h
            · obtain rfl : i = k := by omega
              rw [HCD.out]; exact hc128⟩
          case measure => simp [intOf]; omega
        · have hc128 : xs.getD k 0 < 128 := by omega
          have hk9 : k ≤ 9 := by omega
          have hall := HA.out
          clear HA hb
          by_cases hk9' : k = 9
          · by_cases hbig0 : 1 < xs.getD k 0
            · have HN : Hid (readN xs = none) := by subst hk9'; exact read_big hlen hall hbig0
              subst hk9'
              clear hcell hall hlt
              generalize xs.getD 9 0 = c at *
              go_wp2
              go_ret3
              exact ⟨by rw [HN.out]; rfl, rfl⟩
            · have hbig : k = 9 → xs.getD k 0 ≤ 1 := fun _ => by omega
              by_cases h0 : xs.getD k 0 = 0
              · have HN : Hid (readN xs = none) := read_zero hlen hk9 hall (by omega) h0
                have hc0 : ((xs.getD k 0 : Nat) : Int) ≤ 0 := by omega
                have hc0b : (((xs.getD k 0 : Nat) : Int) == 0) = true := by rw [h0]; rfl
                have hc1 : ((xs.getD k 0 : Nat) : Int) ≤ 1 := by omega
                clear h0 hbig
                subst hk9'
                clear hcell hall hlt
                generalize xs.getD 9 0 = c at *
                go_wp2
                go_ret3
                exact ⟨by rw [HN.out]; rfl, rfl⟩
              · have hzer : 0 < k → xs.getD k 0 ≠ 0 := fun _ => h0
                have hc1 : ((xs.getD k 0 : Nat) : Int) ≤ 1 := by omega
                have hc0b : (((xs.getD k 0 : Nat) : Int) == 0) = false := by simpa using h0
                subst hk9'
                clear h0
                have HE : Hid _ := read_ok hlen hk9 hall hc128 hbig hzer
                have HF : Hid _ := read_ok_fits hlen hk9 hall hc128 hbig hzer
                have hLl : Hid ((xs.take (9 + 1)).length = 9 + 1) := by show _ = _; simp; omega
                clear hall hbig hzer
                generalize xs.getD 9 0 = ck at *
                have HCell : Hid _ := hcell
                clear hcell
                go_wp2
                go_loop [6, 7] (fun t i => ∃ j : Nat, j ≤ 9 + 1 ∧ i = .int .i64 ((j : Int) - 1) ∧ t = .int .u64 (val ((xs.take (9 + 1)).drop j) : Nat)) (fun _ i => (intOf i + 1).toNat)
                case atStart => exact ⟨9 + 1, by omega, by go_num, by rw [List.drop_eq_nil_of_le (by rw [hLl.out]; exact Nat.le_refl _)]; rfl⟩
                case round =>
                  obtain ⟨j, hj, rfl, rfl⟩ := hrel
                  by_cases hj0 : 0 < j
                  · obtain ⟨t, rfl⟩ : ∃ t, j = t + 1 := ⟨j - 1, by omega⟩
                    rw [show ((t + 1 : Nat) : Int) - 1 = (t : Int) from by omega]
                    have htk : t ≤ 9 := by omega
                    have hct := HCell.out t (by omega)
                    have hb8t := getD_lt hlt t
                    have HV : Hid _ := val_drop xs 9 t htk (by omega)
                    have hv2 := val_fits (t := t) HF.out
                    rw [HV.out] at hv2
                    generalize val ((xs.take (9 + 1)).drop (t + 1)) = q at *
                    generalize xs.getD t 0 = ct at *
                    clear HCell hck
                    go_wp2
                    go_round
                    case rel => exact ⟨t, by omega, by go_num, by rw [HV.out]; go_num⟩
                    case measure => simp [intOf]
                  · obtain rfl : j = 0 := by omega
                    rw [List.drop_zero]
                    rw [show (((0 : Nat) : Int) - 1) = -1 from by omega]
                    generalize val (xs.take (9 + 1)) = q at *
                    clear HCell hck
                    go_wp2
                    go_ret3
                    exact ⟨by rw [HE.out]; rfl, rfl⟩

          · have hk9b : ((k : Int) == 9) = false := by simp; omega
            have hbig : k = 9 → xs.getD k 0 ≤ 1 := fun h => absurd h hk9'
            clear hk9'
            by_cases hk0 : 0 < k
            · by_cases h0 : xs.getD k 0 = 0
              · have HN : Hid (readN xs = none) := read_zero hlen hk9 hall hk0 h0
                have hc0b : (((xs.getD k 0 : Nat) : Int) == 0) = true := by rw [h0]; rfl
                clear h0 hbig hcell hall hlt
                generalize xs.getD k 0 = c at *
                go_wp2
                go_ret3
                exact ⟨by rw [HN.out]; rfl, rfl⟩
              · have hzer : 0 < k → xs.getD k 0 ≠ 0 := fun _ => h0
                have hc0b : (((xs.getD k 0 : Nat) : Int) == 0) = false := by simpa using h0
                clear h0
                have HE : Hid _ := read_ok hlen hk9 hall hc128 hbig hzer
                have HF : Hid _ := read_ok_fits hlen hk9 hall hc128 hbig hzer
                have hLl : Hid ((xs.take (k + 1)).length = k + 1) := by show _ = _; simp; omega
                clear hall hbig hzer
                generalize xs.getD k 0 = ck at *
                have HCell : Hid _ := hcell
                clear hcell
                go_wp2
                go_loop [6, 7] (fun t i => ∃ j : Nat, j ≤ k + 1 ∧ i = .int .i64 ((j : Int) - 1) ∧ t = .int .u64 (val ((xs.take (k + 1)).drop j) : Nat)) (fun _ i => (intOf i + 1).toNat)
                case atStart => exact ⟨k + 1, by omega, by go_num, by rw [List.drop_eq_nil_of_le (by rw [hLl.out]; exact Nat.le_refl _)]; rfl⟩
                case round =>
                  obtain ⟨j, hj, rfl, rfl⟩ := hrel
                  by_cases hj0 : 0 < j
                  · obtain ⟨t, rfl⟩ : ∃ t, j = t + 1 := ⟨j - 1, by omega⟩
                    rw [show ((t + 1 : Nat) : Int) - 1 = (t : Int) from by omega]
                    have htk : t ≤ k := by omega
                    have hct := HCell.out t (by omega)
                    have hb8t := getD_lt hlt t
                    have HV : Hid _ := val_drop xs k t htk (by omega)
                    have hv2 := val_fits (t := t) HF.out
                    rw [HV.out] at hv2
                    generalize val ((xs.take (k + 1)).drop (t + 1)) = q at *
                    generalize xs.getD t 0 = ct at *
                    clear HCell hck
                    go_wp2
                    go_round
                    case rel => exact ⟨t, by omega, by go_num, by rw [HV.out]; go_num⟩
                    case measure => simp [intOf]
                  · obtain rfl : j = 0 := by omega
                    rw [List.drop_zero]
                    rw [show (((0 : Nat) : Int) - 1) = -1 from by omega]
                    generalize val (xs.take (k + 1)) = q at *
                    clear HCell hck
                    go_wp2
                    go_ret3
                    exact ⟨by rw [HE.out]; rfl, rfl⟩
            · have hzer : 0 < k → xs.getD k 0 ≠ 0 := fun h => absurd h hk0
              have HE : Hid _ := read_ok hlen hk9 hall hc128 hbig hzer
              have HF : Hid _ := read_ok_fits hlen hk9 hall hc128 hbig hzer
              have hLl : Hid ((xs.take (k + 1)).length = k + 1) := by show _ = _; simp; omega
              clear hall hbig hzer
              generalize xs.getD k 0 = ck at *
              have HCell : Hid _ := hcell
              clear hcell
              go_wp2
              go_loop [6, 7] (fun t i => ∃ j : Nat, j ≤ k + 1 ∧ i = .int .i64 ((j : Int) - 1) ∧ t = .int .u64 (val ((xs.take (k + 1)).drop j) : Nat)) (fun _ i => (intOf i + 1).toNat)
              case atStart => exact ⟨k + 1, by omega, by go_num, by rw [List.drop_eq_nil_of_le (by rw [hLl.out]; exact Nat.le_refl _)]; rfl⟩
              case round =>
                obtain ⟨j, hj, rfl, rfl⟩ := hrel
                by_cases hj0 : 0 < j
                · obtain ⟨t, rfl⟩ : ∃ t, j = t + 1 := ⟨j - 1, by omega⟩
                  rw [show ((t + 1 : Nat) : Int) - 1 = (t : Int) from by omega]
                  have htk : t ≤ k := by omega
                  have hct := HCell.out t (by omega)
                  have hb8t := getD_lt hlt t
                  have HV : Hid _ := val_drop xs k t htk (by omega)
                  have hv2 := val_fits (t := t) HF.out
                  rw [HV.out] at hv2
                  generalize val ((xs.take (k + 1)).drop (t + 1)) = q at *
                  generalize xs.getD t 0 = ct at *
                  clear HCell hck
                  go_wp2
                  go_round
                  case rel => exact ⟨t, by omega, by go_num, by rw [HV.out]; go_num⟩
                  case measure => simp [intOf]
                · obtain rfl : j = 0 := by omega
                  rw [List.drop_zero]
                  rw [show (((0 : Nat) : Int) - 1) = -1 from by omega]
                  generalize val (xs.take (k + 1)) = q at *
                  clear HCell hck
                  go_wp2
                  go_ret3
                  exact ⟨by rw [HE.out]; rfl, rfl⟩

      · obtain rfl : k = 10 := by omega
        have HN : Hid (readN xs = none) := read_over (Nat.le_of_lt hlen) HA.out
        clear hcell hb hlt HA
        generalize xs.getD 10 0 = c at *
        go_wp2
        go_ret3
        exact ⟨by rw [HN.out]; rfl, rfl⟩
    · obtain rfl : k = xs.length := by omega
      have HN : Hid (readN xs = none) := by
        show _ = _
        rcases Nat.lt_or_ge xs.length 10 with h | h
        · exact read_end (by omega) HA.out
        · exact read_over h (fun i hi => HA.out i (by omega))
      clear hb hlt HA
      go_wp2
      go_ret3
      exact ⟨by rw [HN.out]; rfl, rfl⟩
end Go.Proofs.YtglcpfnpbcnejaaGreatDoor
