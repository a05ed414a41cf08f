/-
  Proved: for every text s and all bytes b the law BitsTexts answers true: Text, Cut and Sum write, cut and sum as the document says; what is handed in stays as it was, and what Cut answers is new memory.
  Conditions: none (every string, every []byte that can be read).
-/
import Derived.Test.YtdbgbaclgdkkjaaRows
import Derived.Test.YtdbgbaclgdkkjaaBoth
import Derived.Test.YtdbgbaclgdkkjaaRefCut
import Derived.WalkKit
import Derived.ProofKit
import Derived.OpenShut
import Derived.ShutString
import Derived.ChangeOld
import Derived.Below
namespace Go.Proofs.Ytdbgbaclgdkkjaa.bitsTexts
open Go.ChangeShapes Go.WideShapes Go.ChangeAt Go.RowKit
open Go.ChangeMaps (open_string shut_string)
set_option linter.unusedVariables false

theorem own : ownKnob Try.prog.godebug = none := by kernel_rfl
theorem laidOut : laidOutB Try.prog = true := by kernel_rfl

open Go.Joins
/-- What Cut answers, part by part. -/
def cutOk (xs : List Nat) : Bool := match readN xs with | some (n, k) => decide (k + n ≤ xs.length) | none => false
def cutT (xs : List Nat) : ByteArray := match readN xs with | some (n, k) => if k + n ≤ xs.length then strOf ((xs.drop k).take n) else ByteArray.empty | none => ByteArray.empty
def cutR (xs : List Nat) : List Nat := match readN xs with | some (n, k) => if k + n ≤ xs.length then xs.drop (k + n) else [] | none => []
def cutE (xs : List Nat) : Int := match readN xs with | some (n, k) => if k + n ≤ xs.length then 0 else 8 | none => 8
theorem cutR_bytes {xs : List Nat} (h : ∀ c ∈ xs, c < 256) : ∀ c ∈ cutR xs, c < 256 := by
  intro c hc
  unfold cutR at hc
  split at hc
  · split at hc
    · exact h c (List.mem_of_mem_drop hc)
    · simp at hc
  · simp at hc
theorem cutR_len (xs : List Nat) : (cutR xs).length ≤ xs.length := by
  unfold cutR
  split
  · split
    · simp
    · simp
  · simp
theorem cut_all (p : Option Addr) (cap : Nat) (xs : List Nat) (w : World) (hb : BIn w p xs) (hm : xs.length ≤ 100000) (hcap : xs.length ≤ cap) :
    Calls Try.prog 12 #[.slice p xs.length cap] w fun e w' => ∃ v, e = .returned (.tuple #[.string (cutT xs), v, .int .i64 (cutE xs)]) ∧ w'.ownsRow w.heap.size 5 1 v (cutR xs).length (Bs (cutR xs)) ∧ Below w.heap.size w w' := by
  have hmm : xs.length ≤ maxLen := by unfold maxLen; omega
  unfold cutT cutE cutR
  rcases hr : readN xs with _ | ⟨n, k⟩
  · refine (cut_none p cap xs w hb hmm hr).mono ?_
    rintro e w' ⟨rfl, rfl⟩
    exact ⟨_, rfl, World.ownsRow_nil _ _ _ _, Below.refl _ _⟩
  · by_cases hl : k + n ≤ xs.length
    · simp only [hl, if_true]
      exact cut_ok p cap xs w hb hm hcap n k hr hl
    · simp only [hl, if_false]
      refine (cut_long p cap xs w hb hmm n k hr (by omega)).mono ?_
      rintro e w' ⟨rfl, rfl⟩
      exact ⟨_, rfl, World.ownsRow_nil _ _ _ _, Below.refl _ _⟩
theorem refCut_all (p : Option Addr) (cap : Nat) (xs : List Nat) (w : World) (hb : BIn w p xs) (hm : xs.length ≤ 100000) (hcap : xs.length ≤ cap) :
    Calls Try.prog 23 #[.slice p xs.length cap] w fun e w' => ∃ v, e = .returned (.tuple #[.string (cutT xs), v, .int .i64 (cutE xs)]) ∧ w'.ownsRow w.heap.size 5 1 v (cutR xs).length (Bs (cutR xs)) ∧ Below w.heap.size w w' := by
  have hmm : xs.length ≤ maxLen := by unfold maxLen; omega
  unfold cutT cutE cutR
  rcases hr : readN xs with _ | ⟨n, k⟩
  · refine (refCut_none p cap xs w hb hmm hr).mono ?_
    rintro e w' ⟨rfl, rfl⟩
    exact ⟨_, rfl, World.ownsRow_nil _ _ _ _, Below.refl _ _⟩
  · by_cases hl : k + n ≤ xs.length
    · simp only [hl, if_true]
      exact refCut_ok p cap xs w hb hm hcap n k hr hl
    · simp only [hl, if_false]
      refine (refCut_long p cap xs w hb hmm n k hr (by omega)).mono ?_
      rintro e w' ⟨rfl, rfl⟩
      exact ⟨_, rfl, World.ownsRow_nil _ _ _ _, Below.refl _ _⟩
theorem form_cap {w : World} {base n : Nat} {v : Value} {L : List Value} {xs : List Nat} (h : w.ownsRow base 5 1 v n L) (hn : n = xs.length) : ∃ q c, v = .slice q xs.length c ∧ xs.length ≤ c ∧ (0 < xs.length → ∃ g, q = some ⟨g, 0, none⟩ ∧ base ≤ g) := by
  subst hn
  rcases h.2 with ⟨hv, h0⟩ | ⟨g, cap, cur, hv, hb, _, hle, _⟩
  · exact ⟨none, 0, by rw [hv, h0], by omega, by omega⟩
  · exact ⟨_, cap, hv, hle, fun _ => ⟨g, rfl, hb⟩⟩
theorem Bs_set (ys : List Nat) (j c : Nat) : (Bs ys).set j (.int .u8 (c : Int)) = Bs (ys.set j c) := by simp [Bs, List.map_set]
theorem text_form (s : ByteArray) (w : World) (hs : s.size ≤ 100000) :
    Calls Try.prog 15 #[.string s] w fun e w' => ∃ g c, e = .returned (.slice (some ⟨g, 0, none⟩) (textN s).length c) ∧ BIn w' (some ⟨g, 0, none⟩) (textN s) ∧ Below w.heap.size w w' := by
  refine (text_any s w hs).mono ?_
  rintro e w1 ⟨v, rfl, hown, hb⟩
  have hpos := smallN_pos s.size
  obtain ⟨g, c, rfl⟩ := ownsRow_form hown (by simp [textN]; omega)
  refine ⟨g, c, rfl, own_at hown rfl ?_, hb⟩
  intro c hc
  rcases List.mem_append.1 hc with h | h
  · exact smallN_bytes _ c h
  · exact numsOf_lt s c h
theorem refText_form (s : ByteArray) (w : World) (hs : s.size ≤ 100000) :
    Calls Try.prog 24 #[.string s] w fun e w' => ∃ g c, e = .returned (.slice (some ⟨g, 0, none⟩) (textN s).length c) ∧ BIn w' (some ⟨g, 0, none⟩) (textN s) ∧ Below w.heap.size w w' := by
  refine (refText_any s w hs).mono ?_
  rintro e w1 ⟨v, rfl, hown, hb⟩
  have hpos := smallN_pos s.size
  obtain ⟨g, c, rfl⟩ := ownsRow_form hown (by simp [textN]; omega)
  refine ⟨g, c, rfl, own_at hown rfl ?_, hb⟩
  intro c hc
  rcases List.mem_append.1 hc with h | h
  · exact smallN_bytes _ c h
  · exact numsOf_lt s c h

/-! ### STEP 1: THE WALK -/
set_option maxHeartbeats 1000000 in
theorem walk_big (s : ByteArray) (p : Option Addr) (len cap : Nat) (w : World) (hbig : 100000 < s.size ∨ 100000 < len) :
    Calls Try.prog 5 #[.string s, .slice p len cap] w fun e w' => e = .returned (.bool true) ∧ Below w.heap.size w w' := by
  by_cases h1 : 100000 < s.size
  · clear hbig
    go_enter Try.func5, Try.ntmps5
    go_wp2
    go_ret
    exact ⟨rfl, Below.refl _ _⟩
  · have h2 : 100000 < len := by omega
    clear hbig
    go_enter Try.func5, Try.ntmps5
    go_wp2
    go_ret
    exact ⟨rfl, Below.refl _ _⟩
set_option maxHeartbeats 2000000 in
theorem walk_main (s : ByteArray) (hs : s.size ≤ 100000) (p : Option Addr) (cap : Nat) (xs : List Nat) (hx : xs.length ≤ 100000) (hcap : xs.length ≤ cap) (w : World) (hin : BIn w p xs) (hp : p = none → cap = 0) :
    Calls Try.prog 5 #[.string s, .slice p xs.length cap] w fun e w' => e = .returned (.bool true) ∧ Below w.heap.size w w' := by
  have HP : Hid (p = none → cap = 0) := hp
  have HI : Hid (BIn w p xs) := hin
  have HM : Hid (xs.length ≤ maxLen) := by show _ ≤ _; unfold maxLen; omega
  have Z1 : Hid (([] : List Nat).length + xs.length ≤ 140737488355328) := by show _ ≤ _; simp; omega
  have hcl := cutR_len xs
  have HCB : Hid (∀ c ∈ cutR xs, c < 256) := cutR_bytes hin.2
  clear hp hin
  go_enter Try.func5, Try.ntmps5
  go_wp2_with (at_builtin; refine wpList_append_bytes _ rfl _ _ rfl w.heap.size _ [] xs p _ cap rfl rfl rfl (World.ownsRow_nil _ _ _ _) HI.out HP.out Z1.out (Nat.le_refl _) ?_)
  intro v1 w1 hown1 hgrow1
  have b1 : Below w.heap.size w w1 := (Below.refl w.heap.size w).grown hgrow1 (Nat.le_refl _) (fun k hk => by simp [Value.ownBlock] at hk)
  obtain ⟨q1, c1, hv1, hc1, _⟩ := form_cap (xs := xs) hown1 (by simp)
  rw [hv1] at hown1 ⊢
  have I1 : Hid (BIn w1 q1 xs) := own_at (xs := xs) (by simpa using hown1) rfl HI.out.2
  have z1 := b1.size
  clear hown1 hgrow1 hv1 Z1 HP
  go_wp2_with fail
  refine (cut_all _ _ xs _ I1.out hx hc1).mono ?_
  rintro e w2 ⟨v2, rfl, hown2, hb2⟩
  have b2 : Below w.heap.size w w2 := b1.trans (hb2.mono z1)
  have z2 := b2.size
  obtain ⟨q2, c2, hv2, hc2, hg2⟩ := form_cap (xs := cutR xs) hown2 rfl
  rw [hv2] at hown2 ⊢
  have O2 : Hid (w2.ownsRow w1.heap.size 5 1 (.slice q2 (cutR xs).length c2) (cutR xs).length (Bs (cutR xs))) := hown2
  have G2 : Hid (0 < (cutR xs).length → ∃ g, q2 = some ⟨g, 0, none⟩ ∧ w1.heap.size ≤ g) := hg2
  have d2 : Below w1.heap.size w1 w2 := hb2
  clear hown2 hv2 hg2 hb2 hc2
  go_wp2_with fail
  refine (refCut_all _ _ xs _ (HI.out.below b2) hx hcap).mono ?_
  rintro e w3 ⟨v3, rfl, hown3, hb3⟩
  obtain ⟨q3, c3, hv3, _, _⟩ := form_cap (xs := cutR xs) hown3 rfl
  rw [hv3] at hown3 ⊢
  have L3 : Hid (BIn w3 q3 (cutR xs)) := own_at hown3 rfl HCB.out
  have O3 : Hid (w3.ownsRow w1.heap.size 5 1 (.slice q2 (cutR xs).length c2) (cutR xs).length (Bs (cutR xs))) := own_below O2.out hb3
  have d3 : Below w1.heap.size w1 w3 := d2.trans (hb3.mono d2.size)
  have z3 := d3.size
  clear hown3 hv3 hb3 O2 d2 b2 z2
  go_wp2_with fail
  refine (text_form s _ hs).mono ?_
  rintro e w4 ⟨g4, c4, rfl, T4, hb4⟩
  have L4 : Hid (BIn w4 q3 (cutR xs)) := L3.out.below hb4
  have O4 : Hid (w4.ownsRow w1.heap.size 5 1 (.slice q2 (cutR xs).length c2) (cutR xs).length (Bs (cutR xs))) := own_below O3.out hb4
  have d4 : Below w1.heap.size w1 w4 := d3.trans (hb4.mono z3)
  have z4 := d4.size
  clear L3 O3 d3 hb4
  go_wp2_with fail
  refine (refText_form s _ hs).mono ?_
  rintro e w5 ⟨g5, c5, rfl, U5, hb5⟩
  have T5 := T4.below hb5
  have L5 : Hid (BIn w5 q3 (cutR xs)) := L4.out.below hb5
  have O5 : Hid (w5.ownsRow w1.heap.size 5 1 (.slice q2 (cutR xs).length c2) (cutR xs).length (Bs (cutR xs))) := own_below O4.out hb5
  have d5 : Below w1.heap.size w1 w5 := d4.trans (hb5.mono z4)
  have z5 := d5.size
  clear L4 O4 d4 hb5 T4
  go_wp2_with fail
  refine (refSame_eq _ _ _ _ _ _ (textN s) (textN s) _ rfl rfl rfl T5 U5).mono ?_
  rintro e w' ⟨rfl, rfl⟩
  clear T5 U5
  go_wp2_with fail
  refine (refSame_eq _ _ _ _ _ _ (cutR xs) (cutR xs) _ rfl rfl rfl (own_at O5.out rfl HCB.out) L5.out).mono ?_
  rintro e w5 ⟨rfl, rfl⟩
  go_wp2_with fail
  refine (sum_at _ _ _ xs _ _ rfl rfl (I1.out.below d5) HM.out).mono ?_
  rintro e w' ⟨rfl, rfl⟩
  go_wp2_with fail
  refine (refSum_any _ _ xs _ (HI.out.below (b1.trans (d5.mono z1))) HM.out).mono ?_
  rintro e w5 ⟨rfl, rfl⟩
  clear L5
  go_wp2_with fail
  go_loopw [12] (fun i wr => ∃ j : Nat, ∃ ys : List Nat, j ≤ (cutR xs).length ∧ i = .int .i64 j ∧ ys.length = (cutR xs).length ∧ (∀ c ∈ ys, c < 256) ∧ wr.ownsRow w1.heap.size 5 1 (.slice q2 (cutR xs).length c2) (cutR xs).length (Bs ys) ∧ Below w1.heap.size w1 wr)
    (fun i _ => (cutR xs).length - (intOf i).toNat)
  case atStart => exact ⟨0, cutR xs, by omega, rfl, rfl, HCB.out, O5.out, d5⟩
  case round =>
    obtain ⟨j, ys, hj, rfl, hyl, hyb, hown, hbel⟩ := hrel
    have HYL : Hid (ys.length = (cutR xs).length) := hyl
    have HYB : Hid (∀ c ∈ ys, c < 256) := hyb
    clear hyl hyb O5
    by_cases hjl : j < (cutR xs).length
    · obtain ⟨g, rfl, hg⟩ := G2.out (by omega)
      have hjy : j < ys.length := by rw [HYL.out]; exact hjl
      have hcl2 : wr.cell? ⟨g, j, none⟩ = some (.int .u8 (ys.getD j 0 : Nat)) := by rw [hown.cellAt j (by omega)]; simp [Bs, List.getD, List.getElem?_eq_getElem hjy]
      have hfz : wr.frozen? ⟨g, j, none⟩ = false := hown.frozenAt j
      have HS : Hid _ := fun u => (hown.stored j u).1
      have hb8 := getD_lt HYB.out j
      clear hown hjy
      generalize ys.getD j 0 = y at *
      generalize (cutR xs).length = len at *
      go_wp2
      go_roundw
      case rel => exact ⟨j + 1, ys.set j ((y + 1) % 256), by omega, by go_num, by simpa using HYL.out, fun c hc => by
        rcases List.mem_or_eq_of_mem_set hc with h | h
        · exact HYB.out c h
        · omega, by rw [← Bs_set]; have := HS.out (.int .u8 (((y + 1) % 256 : Nat) : Int)); simpa using this, hbel.setCell hg _⟩
      case measure => simp [intOf]; omega
    · clear hown
      go_wp2_with fail
      refine (refSame_eq _ _ _ _ _ _ xs xs _ rfl rfl rfl (I1.out.below hbel) (HI.out.below (b1.trans (hbel.mono z1)))).mono ?_
      rintro e w' ⟨rfl, rfl⟩
      go_wp2
      go_ret
      exact ⟨rfl, b1.trans (hbel.mono z1)⟩
theorem walk (a0 : ByteArray) (a1 : Option Addr) (len1 cap1 : Nat) (z1 : List Int) (w : World) (w0 : a0.size ≤ maxLen) (w1 : IsRow .u8 w a1 len1 cap1 z1) :
    Calls Try.prog 5 #[.string a0, .slice a1 len1 cap1] w fun e w' => e = .returned (.bool true) ∧ Below w.heap.size w w' := by
  obtain ⟨xs, rfl, hin, hc, hm, hp⟩ := row_bin w1
  by_cases h : 100000 < a0.size ∨ 100000 < xs.length
  · exact walk_big a0 a1 _ cap1 w h
  · exact walk_main a0 (by omega) a1 cap1 xs (by omega) hc w hin hp

/-! ### THE ROW's STEP: WRITTEN OUT: LEAVE IT -/
set_option maxRecDepth 100000 in
theorem lifted (os : Os) (started : os.Started) (H : Type) (enc : TypeId × Value → H) :
    ReturnsInHanded {} Try.checked os 5 .any (Rows.bitsTextsSpec.pre6 enc Try.prog Try.f5 Rows.bitsTextsRow.domain false) (Rows.bitsTextsSpec.post enc Try.prog Try.f5 false true false false) := by
  refine returnsInHanded_of_change (C := Try.checked) own started (by kernel_rfl) Try.func5
    (ChangeSpec.witness6 (enc := enc) (C := Try.checked) false ⟨#[], #[.string ByteArray.empty, .slice none 0 0], []⟩ 8 (by kernel_rfl) (by kernel_rfl) (by kernel_rfl) (by kernel_rfl)) ?_
  intro W base args ds gs before hval0 hW hcnd _
  have hval : ∀ (j : Nat) t v, Try.f5.params[j]? = some t → args[j]? = some v → Value.okWide Try.prog W .any base t v := hval0
  have hW' := hW
  obtain ⟨p, q, hA0, hV, rfl, hfz, hnd⟩ := hW
  have hA : DataW.TrodAll enc Try.prog W 0 (fun _ => true) true Try.f5.params.toList args.toList ds p := hA0
  rw [Try.params5] at hA hval
  obtain ⟨v0, vs0, d0, ds0, p0, q0, hargs, rfl, rfl, h0, r0⟩ := trodAll_cons hA
  obtain ⟨v1, vs1, d1, ds1, p1, q1, rfl, rfl, rfl, h1, r1⟩ := trodAll_cons r0
  obtain ⟨rfl, rfl, rfl⟩ := trodAll_nil r1
  obtain rfl : args = #[v0, v1] := by cases args; simp_all
  obtain ⟨rfl, rfl⟩ := trodVars_none hV
  obtain ⟨a0, rfl, rfl, rfl, w0⟩ := open_string Try.underlying9 (hval 0 9 v0 rfl rfl) h0
  obtain ⟨a1, len1, cap1, rfl⟩ := okWide_slice Try.underlying26 (hval 1 26 v1 rfl rfl)
  have k1 := h1
  have lt1 : ∀ x ∈ p1, x.block < W.heap.size := by obtain ⟨m, hm⟩ := k1; exact DataW.trod_lt m _ _ _ hm
  obtain ⟨z1, w1⟩ : ∃ zs, IsRow .u8 W a1 len1 cap1 zs := by
    obtain ⟨fuel, hf⟩ := h1
    rcases open_ints Try.underlying26 Try.underlying5 (by kernel_rfl) hf with ⟨hcs, _⟩ | ⟨x, l, c, zs, hcs, _, hl, hm, hz, _, hcell, hwz⟩
    · simp [Value.cells] at hcs
      obtain ⟨rfl, rfl, rfl⟩ := hcs
      exact ⟨[], .inl ⟨rfl, rfl, rfl, rfl⟩⟩
    · simp [Value.cells] at hcs
      obtain ⟨rfl, rfl, rfl⟩ := hcs
      exact ⟨zs, .inr ⟨_, rfl, hl, hm, by simpa using hz, hcell, hwz⟩⟩
  clear hA0 hval0
  refine (walk a0 a1 len1 cap1 z1 W w0 w1).mono fun e W' ⟨he, bel⟩ => ?_
  subst he
  exact ⟨_, rfl, _, _, _, [], _, [], hW', trodAll_mk1 (shut_bool Try.underlying4 _), (trodAll_cons_mk (shut_string Try.underlying9 w0) (trodAll_cons_mk (Below.trod laidOut (by kernel_rfl) (of_decide_eq_true (by kernel_rfl)) k1 bel lt1) trodAll_mk0)), rfl, bel.frame _, fun h => by cases h⟩

theorem over : Rows.bitsTextsRow.holds Try.pinned (OpenSpec.ofChange Rows.bitsTextsSpec) :=
  OpenClaim.holds_of_wide 5 Try.f5 rfl rfl rfl rfl rfl rfl rfl ⟨rfl, rfl, rfl, rfl, rfl⟩ rfl rfl rfl rfl rfl (by kernel_rfl) Try.func5 (by kernel_rfl)
    (of_decide_eq_true (by kernel_rfl)) (by unfold Func.isWrapper; first | (rw [if_pos (by decide +kernel)]; kernel_rfl) | (rw [if_neg (by decide +kernel)]; exact ⟨rfl, rfl⟩))
    (fun os started H enc _ => lifted os started H enc)

theorem proved : Rows.BitsTextsSaid := over
end Go.Proofs.Ytdbgbaclgdkkjaa.bitsTexts
namespace Go.Proofs.Ytdbgbaclgdkkjaa
theorem bitsTexts_holds : Rows.BitsTextsSaid := bitsTexts.proved
#print axioms bitsTexts_holds
end Go.Proofs.Ytdbgbaclgdkkjaa
