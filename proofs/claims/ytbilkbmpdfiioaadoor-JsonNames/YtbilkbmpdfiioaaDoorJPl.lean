/-
  JsonPlaces: the walk.
-/
import Derived.Test.YtbilkbmpdfiioaaDoorRows
import Derived.Test.YtbilkbmpdfiioaaDoorChecked
import Derived.Test.YtbilkbmpdfiioaaDoorJLaid
import Derived.ChangeSame
import Derived.ChangeVars
import Derived.JoinedOf
import Derived.RowKit
import Derived.RowKitTokens
import Derived.LaidSub
import Derived.LaidLaws
import Derived.LaidHandle
import Derived.Lib.LaidTab
import Derived.Lib.LaidU8T
import Derived.Stop.Joined
import Derived.Stop.LaidErr
import Derived.Lay
import Derived.Test.YtbilkbmpdfiioaaDoorJAlive
import Derived.Laws.Concat
namespace Go.Proofs.YtbilkbmpdfiioaaDoor
open Go.RowKit

def laidLs : List (String × DataW Unit) := [("math/bits.deBruijn32tab", Rows.laid_math_bits_deBruijn32tab), ("math/bits.deBruijn64tab", Rows.laid_math_bits_deBruijn64tab), ("internal/strconv.uint64pow10", Rows.laid_internal_strconv_uint64pow10), ("unicode/utf8.acceptRanges", Rows.laid_unicode_utf8_acceptRanges), ("strconv.ErrRange", Rows.laid_strconv_ErrRange), ("strconv.ErrSyntax", Rows.laid_strconv_ErrSyntax), ("unicode/utf8.first", Rows.laid_unicode_utf8_first)]
noncomputable def baseW (os : Os) : World := World.holding Tryd.prog os ⟨#[], #[], []⟩
noncomputable def laidWorld (os : Os) : World := (baseW os).layVars Tryd.prog laidLs
theorem laidWorld_os (os : Os) : (laidWorld os).os = os := World.layVars_os _ _ _
set_option maxRecDepth 100000 in
theorem plain_fits (os : Os) : (baseW os).layFits Tryd.prog laidLs [] = true := by kernel_rfl
set_option maxRecDepth 100000 in
theorem plain_ifaces (os : Os) : (baseW os).layIfaces Tryd.prog laidLs (laidWorld os) = true := by kernel_rfl
theorem laidPlain (os : Os) : laidMet Tryd.prog laidLs (laidWorld os) := by
  have e1 : (laidLs.filter fun x => (laidLs.map (·.1)).contains x.1) = laidLs := List.filter_eq_self.2 fun x hx => List.contains_iff_mem.2 (List.mem_map.2 ⟨x, hx, rfl⟩)
  have e2 : (laidLs.filter fun x => !(laidLs.map (·.1)).contains x.1) = [] := List.filter_eq_nil_iff.2 fun x hx => by rw [List.contains_iff_mem.2 (List.mem_map.2 ⟨x, hx, rfl⟩)]; simp
  exact laidMet_layVars (w0 := baseW os) (laidLs.map (·.1)) [] (by rw [e1]; rfl) (by rw [e1]; exact plain_fits os) (by rw [e1]; exact plain_ifaces os) (by rw [e2]; exact LaidIn.none)
theorem plain_is : (laidLs.filter fun x => x.2.handleName?.isNone) = laidLs := by kernel_rfl
theorem laidWorld_met (os : Os) (args : Array Value) : laidMetH Tryd.prog laidLs ((laidWorld os).forCall (fun _ _ => 0) ⟨#[], args, []⟩).memory :=
  laidMetH_of_parts (by rw [plain_is]; exact (laidPlain os).of_heap (by simp [World.memory, World.forCall, Input.heap])) (by kernel_rfl)
/-! ### What the condition gives -/
theorem star_err : "*errors.errorString" = "*" ++ "errors.errorString" := by decide
theorem row_err (u : TypeId) (h : Tryd.prog.typeName? 3 u = some "*errors.errorString") : u = 158 :=
  typeName_ptr_named (nm := "errors.errorString") (by rw [← star_err]; kernel_rfl) (by kernel_rfl) (by decide) u (by rw [← star_err]; exact h)
theorem one_of (n : String) (d : DataW Unit) (hf : (laidLs.filter fun x => x.1 == n) = [(n, d)]) {W : World} (h : laidMet Tryd.prog laidLs W) : laidMet Tryd.prog [(n, d)] W := by
  have := h.filter (fun x => x.1 == n)
  rw [hf] at this
  exact this
theorem var_lt {W : World} {n : String} {g : Nat} {cs : Array Value} (hg : Tryd.prog.globalNamed n = some g) (h : W.var? Tryd.prog n = some cs) : g < W.heap.size := by
  unfold World.var? at h
  rw [hg] at h
  simp only [Option.bind_some] at h
  rcases Nat.lt_or_ge g W.heap.size with h' | h'
  · exact h'
  · rw [Array.getElem?_eq_none h'] at h
    cases h
set_option maxRecDepth 100000 in
theorem laid_of {W : World} (h : laidMetH Tryd.prog laidLs W) : 8 ≤ W.heap.size ∧ Laid W := by
  obtain ⟨h1, _⟩ := laidMetH_iff.1 h
  rw [plain_is] at h1
  have r64 := Lib.laidMet.reads h1 (n := "math/bits.deBruijn64tab") (d := Rows.laid_math_bits_deBruijn64tab) (.tail _ (.head _))
  have r3 := Lib.laidMet.reads h1 (n := "unicode/utf8.first") (d := Rows.laid_unicode_utf8_first) (.tail _ (.tail _ (.tail _ (.tail _ (.tail _ (.tail _ (.head _)))))))
  have r4 := Lib.laidMet.reads h1 (n := "unicode/utf8.acceptRanges") (d := Rows.laid_unicode_utf8_acceptRanges) (.tail _ (.tail _ (.tail _ (.head _))))
  rw [show Rows.laid_unicode_utf8_first = Lib.firstData by kernel_rfl] at r3
  rw [show Rows.laid_unicode_utf8_acceptRanges = Lib.acceptData by kernel_rfl] at r4
  have hp := one_of "internal/strconv.uint64pow10" Rows.laid_internal_strconv_uint64pow10 (by kernel_rfl) h1
  have hs := one_of "strconv.ErrSyntax" Rows.laid_strconv_ErrSyntax (by kernel_rfl) h1
  have hr := one_of "strconv.ErrRange" Rows.laid_strconv_ErrRange (by kernel_rfl) h1
  obtain ⟨a0, t0, hv0, _⟩ := laid_sentinel (g := 3) hs (by kernel_rfl) (by kernel_rfl) Tryd.underlying89 row_err Tryd.underlying158 Tryd.underlying160 rfl rfl Tryd.underlying9 (by kernel_rfl) (by kernel_rfl)
  obtain ⟨a1, t1, hv1, _⟩ := laid_sentinel (g := 4) hr (by kernel_rfl) (by kernel_rfl) Tryd.underlying89 row_err Tryd.underlying158 Tryd.underlying160 rfl rfl Tryd.underlying9 (by kernel_rfl) (by kernel_rfl)
  have g64 : Tryd.prog.globalNamed "math/bits.deBruijn64tab" = some 7 := by kernel_rfl
  obtain ⟨g, t, cs, fuel, p, hg, hty, hvar, hd⟩ := r64
  refine ⟨var_lt g64 hvar, ⟨?_, ⟨_, _, hv0⟩, ⟨_, _, hv1⟩, ?_⟩⟩
  · exact utf8Tabs_of_readsT (ρ := lays197_ren) { lays197 with } ⟨by kernel_rfl, by kernel_rfl, by kernel_rfl, by kernel_rfl, by kernel_rfl, by kernel_rfl, by kernel_rfl⟩ r3 r4
  · exact Lib.tabIs_of_head (rest := []) g_pow (t := 147) (e := 128) (n := 20) (by kernel_rfl) Tryd.underlying147 Tryd.underlying128 (by kernel_rfl) (by kernel_rfl) hp
end Go.Proofs.YtbilkbmpdfiioaaDoor
namespace Go.Proofs.YtbilkbmpdfiioaaDoor
open Go.RowKit Go.WideShapes Go.Joins

/-- what Read tells of a text that is not too long: its error and its place -/
structure TellP (s : ByteArray) (w : World) (e : Ending) (w' : World) : Prop where
  ex : ∃ (k0 : Nat) (b0 : Bool) (n0 : Int) (t0 : ByteArray) (q1 : Option Addr) (l1 c1 : Nat) (q2 : Option Addr) (l2 c2 : Nat) (n k : Nat), e = .returned (.tuple #[.agg #[.int .u8 (k0 : Int), .bool b0, .int .i64 n0, .string t0, .slice q1 l1 c1, .slice q2 l2 c2], .int .i64 (n : Int), .int .i64 (k : Int)]) ∧ Below w.heap.size w w' ∧
      ((k = 0 ∧ ∃ v r, J.read FF (numsOf s) = .ok v r) ∨ (k ≠ 0 ∧ n ≤ s.size ∧ ∃ a r, J.read FF (numsOf s) = .bad k r ∧ numsOf s = a ++ r ∧ a.length = n))
theorem Read_tells (s : ByteArray) (hs : s.size ≤ 16384) (w : World) (h8 : 8 ≤ w.heap.size) (hL : Laid w) :
    Calls Tryd.prog 9 #[.string s] w fun e w' => TellP s w e w' := by
  refine (Read_any FF (Nat.le_refl _) s w h8 hL).mono ?_
  rintro e w' ⟨A, x, n, k, rfl, hJ, hb, _, h2⟩
  have h2 := h2 hs
  obtain ⟨kk, bb, nn, tt, qn, nl, nc, qi, il, ic, rfl⟩ := jin_form hJ
  refine ⟨kk, bb, nn, tt, qn, nl, nc, qi, il, ic, n, k, rfl, hb, ?_⟩
  cases hr : J.read FF (numsOf s) with
  | out => rw [hr] at h2; exact h2.elim
  | ok v r =>
    rw [hr] at h2
    exact .inl ⟨h2.1, v, r, rfl⟩
  | bad er r =>
    rw [hr] at h2
    obtain ⟨a, ha⟩ := J.read_place (by decide) hr
    have hl := congrArg List.length ha
    rw [numsOf_len, List.length_append] at hl
    obtain ⟨rfl, rfl, _, hne⟩ := h2
    exact .inr ⟨hne, by omega, a, r, rfl, ha, by omega⟩
/-- up to the place it is read, or refused just there -/
theorem ahead_tells {s : ByteArray} {n k : Nat} {a r : List Nat} (h : J.read FF (numsOf s) = .bad k r) (ha : numsOf s = a ++ r) (hl : a.length = n) : numsOf (s.extract 0 n) = a ∧ ((∃ v, J.read FF a = .ok v []) ∨ J.read FF a = .bad 160 []) := by
  refine ⟨by rw [extract_take, ha, ← hl, List.take_left], ?_⟩
  rw [ha] at h
  exact J.read_ahead (by decide) h
theorem nums_append (a b : ByteArray) : numsOf (a ++ b) = numsOf a ++ numsOf b := by
  unfold numsOf
  rw [← List.map_append]
  congr 1
/-- with the byte there it is refused just so, whatever comes behind -/
theorem behind_tells {s more : ByteArray} {n k : Nat} {a r : List Nat} (h : J.read FF (numsOf s) = .bad k r) (ha : numsOf s = a ++ r) (hl : a.length = n) (hn : n < s.size) :
    ∃ m, J.read FF (numsOf (s.extract 0 (n + 1) ++ more)) = .bad k m ∧ ∀ b : List Nat, numsOf (s.extract 0 (n + 1) ++ more) = b ++ m → b.length = n := by
  cases r with
  | nil =>
    have := congrArg List.length ha
    rw [numsOf_len, List.length_append] at this
    simp at this
    omega
  | cons c r =>
    have e1 : numsOf (s.extract 0 (n + 1) ++ more) = a ++ c :: numsOf more := by
      rw [nums_append, extract_take, ha, ← hl, show a ++ c :: r = (a ++ [c]) ++ r by simp, show a.length + 1 = (a ++ [c]).length by simp, List.take_left]
      simp
    rw [ha] at h
    refine ⟨c :: numsOf more, by rw [e1]; exact J.read_behind (by decide) h, fun b hb => ?_⟩
    rw [e1] at hb
    have := congrArg List.length hb
    simp only [List.length_append] at this
    omega
theorem slice_to (s : ByteArray) (j : Nat) (h : j ≤ s.size) (w : World) : (Instr.slice 9 (.string s) none (some (.int .i64 (j : Int))) none).run Tryd.prog w = .ok (.string (s.extract 0 j)) w := by
  rw [run_slice_string_h w 9 s Tryd.underlying9 .i64 (j : Int) (by omega) (by omega), Int.toNat_natCast]
set_option maxHeartbeats 4000000 in
set_option maxRecDepth 8000 in
theorem places_walk (s more : ByteArray) (W : World) (hL : 8 ≤ W.heap.size ∧ Laid W) (_ : s.size ≤ maxLen) (_ : more.size ≤ maxLen) :
    Calls Tryd.prog 8 #[.string s, .string more] W fun e W' => e = .returned (.bool true) ∧ Below W.heap.size W W' := by
  have AL := alive_any W hL.1 hL.2
  have HH : Hid (8 ≤ W.heap.size ∧ Laid W) := hL
  by_cases h1 : 9000 < s.size
  · have q1 : (9000 : Int) < (s.size : Int) := by omega
    clear hL h1
    go_enter Tryd.func8, Tryd.ntmps8
    go_wp2_with (first | (go_at_call 13; refine AL.mono ?_; rintro e w1 ⟨rfl, hb1⟩) | fail)
    go_ret
    exact ⟨rfl, hb1⟩
  have q1 : ¬ (9000 : Int) < (s.size : Int) := by omega
  by_cases h2 : 5000 < more.size
  · have q2 : (5000 : Int) < (more.size : Int) := by omega
    clear hL h1 h2
    go_enter Tryd.func8, Tryd.ntmps8
    go_wp2_with (first | (go_at_call 13; refine AL.mono ?_; rintro e w1 ⟨rfl, hb1⟩) | fail)
    go_ret
    exact ⟨rfl, hb1⟩
  have q2 : ¬ (5000 : Int) < (more.size : Int) := by omega
  have HS : Hid (s.size ≤ 9000 ∧ more.size ≤ 5000) := ⟨by omega, by omega⟩
  have HR : Hid (∀ (s : ByteArray) (w' : World), s.size ≤ 16384 → Below W.heap.size W w' → Calls Tryd.prog 9 #[.string s] w' fun e w'' => TellP s w' e w'') := fun s w' hs hb =>
    Read_tells s hs w' (Nat.le_trans hL.1 hb.size) (hL.2.below hb hL.1)
  clear hL h1 h2
  go_enter Tryd.func8, Tryd.ntmps8
  go_wp2_with (first | (go_at_call 13; refine AL.mono ?_; rintro e w1 ⟨rfl, hb1⟩) | fail)
  refine (HR.out s w1 (by have := HS.out; omega) hb1).mono ?_
  rintro e w2 ⟨k0, b0, n0, t0, p1, l1, c1, p2, l2, c2, n, k, rfl, hb2, hcase⟩
  have B2 := below_more hb1 hb2
  have BX := B2.alloc B2.size (.cells #[.int .u8 (k0 : Int), .bool b0, .int .i64 n0, .string t0, .slice p1 l1 c1, .slice p2 l2 c2] 25)
  clear AL hb2 hb1 B2
  simp only []
  rcases hcase with ⟨rfl, _⟩ | ⟨hk, hn, a, r, hread, hspl, hal⟩
  · simp only [show (((0 : Nat) : Int)) = 0 from rfl]
    go_wp2
    go_ret
    exact ⟨rfl, BX⟩
  have hkI : ((k : Int) == 0) = false := by simpa using fun e : (k : Int) = 0 => hk (by omega)
  obtain ⟨ha1, ha2⟩ := ahead_tells hread hspl hal
  have sl := fun w' => slice_to s n hn w'
  have hnI : (n : Int) ≤ (s.size : Int) := by omega
  have hn0 : (0 : Int) ≤ (n : Int) := by omega
  obtain ⟨sa, hsa⟩ : ∃ sa, s.extract 0 n = sa := ⟨_, rfl⟩
  rw [hsa] at sl ha1
  have HA : Hid (numsOf sa = a ∧ ((∃ v, J.read FF a = .ok v []) ∨ J.read FF a = .bad 160 []) ∧ J.read FF (numsOf s) = .bad k r ∧ numsOf s = a ++ r ∧ a.length = n ∧ k ≠ 0 ∧ n ≤ s.size ∧ sa.size = n) :=
    ⟨ha1, ha2, hread, hspl, hal, hk, hn, by rw [← numsOf_len, ha1, hal]⟩
  clear ha1 ha2 hread hspl hal hk hn hsa
  go_wp2_with fail
  refine (HR.out sa _ (by have := HS.out; have := HA.out.2.2.2.2.2.2; omega) BX).mono ?_
  rintro e w3 ⟨k3, b3, n3, t3, p3, l3, c3, p4, l4, c4, n', k', rfl, hb3, hcase3⟩
  have B3 := below_more BX hb3
  have BY := B3.alloc B3.size (.cells #[.int .u8 (k3 : Int), .bool b3, .int .i64 n3, .string t3, .slice p3 l3 c3, .slice p4 l4 c4] 25)
  clear hb3 B3 BX
  simp only []
  -- what stands ahead is read, or refused just at its end
  have HK : Hid (k' = 0 ∨ (k' = 160 ∧ n' = n)) := by
    have hA := HA.out
    rcases hcase3 with ⟨h, _⟩ | ⟨h, _, a', r', h5, h6, h7⟩
    · exact .inl h
    · rw [hA.1] at h5 h6
      rcases hA.2.1 with ⟨v, h8⟩ | h8
      · rw [h8] at h5; cases h5
      · rw [h8] at h5
        cases h5
        refine .inr ⟨rfl, ?_⟩
        rw [List.append_nil] at h6
        rw [← h7, ← h6, hA.2.2.2.2.1]
  clear hcase3
  by_cases hend : n = s.size
  · have hE : ((n : Int) == (s.size : Int)) = true := by rw [hend]; exact beq_self_eq_true _
    rcases HK.out with rfl | ⟨rfl, rfl⟩
    · simp only [show (((0 : Nat) : Int)) = 0 from rfl]
      clear hend
      go_wp2
      go_ret
      exact ⟨rfl, BY⟩
    · simp only [show (((160 : Nat) : Int)) = 160 from rfl]
      clear hend
      go_wp2
      go_ret
      exact ⟨rfl, BY⟩
  have hE : ((n : Int) == (s.size : Int)) = false := by simpa using fun e : (n : Int) = (s.size : Int) => hend (by omega)
  have hlt : n < s.size := by omega
  obtain ⟨m, hm1, hm2⟩ := behind_tells (more := more) HA.out.2.2.1 HA.out.2.2.2.1 HA.out.2.2.2.2.1 hlt
  have sl2 := fun w' => slice_to s (n + 1) hlt w'
  have hsz : (s.extract 0 (n + 1) ++ more).size ≤ 16384 := by
    have := HS.out
    rw [← numsOf_len, nums_append, List.length_append, extract_take, List.length_take, numsOf_len, numsOf_len]
    omega
  obtain ⟨sb, hsb⟩ : ∃ sb, s.extract 0 (n + 1) = sb := ⟨_, rfl⟩
  rw [hsb] at hm1 hm2 sl2 hsz
  obtain ⟨sm, hsm⟩ : ∃ sm, sb ++ more = sm := ⟨_, rfl⟩
  have hcat : ∀ w', (Op.stringOp .add sb more).run Tryd.prog w' = .ok (.string sm) w' := fun w' => by
    have hb : sb.size ≤ s.size := by rw [← hsb, ← numsOf_len, extract_take, List.length_take, numsOf_len]; omega
    rw [run_string_add_sum w' sb more (by have := HS.out; omega), hsm]
  rw [hsm] at hm1 hm2 hsz
  have hn1 : ((n + 1 : Nat) : Int) = (n : Int) + 1 := by omega
  rw [hn1] at sl2
  have HM : Hid (J.read FF (numsOf sm) = .bad k m ∧ (∀ b : List Nat, numsOf sm = b ++ m → b.length = n) ∧ sm.size ≤ 16384) := ⟨hm1, hm2, hsz⟩
  have hkk : ((k : Int) == (k : Int)) = true := beq_self_eq_true _
  clear hm1 hm2 hsz hend hlt hsb hsm
  rcases HK.out with e1 | ⟨e1, e2⟩
  · subst e1
    simp only [show (((0 : Nat) : Int)) = 0 from rfl]
    obtain ⟨I, hI⟩ : ∃ I : Int, (n : Int) = I := ⟨_, rfl⟩
    rw [hI] at sl2 hE ⊢
    have hI0 : 0 ≤ I := by omega
    have hI1 : I < 1000000 := by have := HS.out; have := HA.out.2.2.2.2.2.2.1; omega
    have hII : (I == I) = true := beq_self_eq_true _
    have hIs : I ≤ (s.size : Int) := by omega
    have HI : Hid ((n : Int) = I) := hI
    clear hI hnI hn0 hn1 sl
    go_wp2_with fail
    refine (HR.out sm _ HM.out.2.2 BY).mono ?_
    rintro e w4 ⟨k4, b4, n4, t4, p5, l5, c5, p6, l6, c6, n'', k'', rfl, hb4, hcase4⟩
    have B4 := below_more BY hb4
    have BZ := B4.alloc B4.size (.cells #[.int .u8 (k4 : Int), .bool b4, .int .i64 n4, .string t4, .slice p5 l5 c5, .slice p6 l6 c6] 25)
    obtain ⟨e1, e2⟩ : k'' = k ∧ n'' = n := by
      rcases hcase4 with ⟨_, v, r4, h5⟩ | ⟨_, _, a4, r4, h5, h6, h7⟩
      · rw [HM.out.1] at h5; cases h5
      · rw [HM.out.1] at h5
        cases h5
        exact ⟨rfl, h7.symm.trans (HM.out.2.1 a4 h6)⟩
    clear hb4 B4 BY hcase4
    simp only []
    rw [e1, e2, HI.out]
    clear e1 e2
    go_wp2
    go_ret
    exact ⟨rfl, BZ⟩
  · subst e1
    have e2 := e2.symm
    subst e2
    simp only [show (((160 : Nat) : Int)) = 160 from rfl]
    obtain ⟨I, hI⟩ : ∃ I : Int, (n : Int) = I := ⟨_, rfl⟩
    rw [hI] at sl2 hE ⊢
    have hI0 : 0 ≤ I := by omega
    have hI1 : I < 1000000 := by have := HS.out; have := HA.out.2.2.2.2.2.2.1; omega
    have hII : (I == I) = true := beq_self_eq_true _
    have hIs : I ≤ (s.size : Int) := by omega
    have HI : Hid ((n : Int) = I) := hI
    clear hI hnI hn0 hn1 sl
    go_wp2_with fail
    refine (HR.out sm _ HM.out.2.2 BY).mono ?_
    rintro e w4 ⟨k4, b4, n4, t4, p5, l5, c5, p6, l6, c6, n'', k'', rfl, hb4, hcase4⟩
    have B4 := below_more BY hb4
    have BZ := B4.alloc B4.size (.cells #[.int .u8 (k4 : Int), .bool b4, .int .i64 n4, .string t4, .slice p5 l5 c5, .slice p6 l6 c6] 25)
    obtain ⟨e1, e2⟩ : k'' = k ∧ n'' = n := by
      rcases hcase4 with ⟨_, v, r4, h5⟩ | ⟨_, _, a4, r4, h5, h6, h7⟩
      · rw [HM.out.1] at h5; cases h5
      · rw [HM.out.1] at h5
        cases h5
        exact ⟨rfl, h7.symm.trans (HM.out.2.1 a4 h6)⟩
    clear hb4 B4 BY hcase4
    simp only []
    rw [e1, e2, HI.out]
    clear e1 e2
    go_wp2
    go_ret
    exact ⟨rfl, BZ⟩
end Go.Proofs.YtbilkbmpdfiioaaDoor
