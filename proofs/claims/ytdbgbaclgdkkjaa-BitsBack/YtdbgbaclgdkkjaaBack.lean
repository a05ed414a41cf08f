/-
  Proved: for every number n, text s and bytes rest the law BitsBack answers true: what Put, Small and Text write is read back by Get, Read and Cut, whatever stands behind.
  Conditions: none (every uint64, every string, every []byte that can be read).
-/
import Derived.Test.YtdbgbaclgdkkjaaRows
import Derived.Test.YtdbgbaclgdkkjaaCut
import Derived.Test.YtdbgbaclgdkkjaaTurn
import Derived.WalkKit
import Derived.ProofKit
import Derived.OpenShut
import Derived.ShutString
import Derived.ChangeOld
import Derived.Below
namespace Go.Proofs.Ytdbgbaclgdkkjaa.bitsBack
open Go.ChangeShapes Go.WideShapes Go.ChangeAt Go.RowKit
open Go.ChangeMaps (open_string shut_string)
set_option linter.unusedVariables false

theorem own : ownKnob Try.prog.godebug = none := by kernel_rfl
theorem laidOut : laidOutB Try.prog = true := by kernel_rfl

open Go.Joins
theorem get_put (n : Nat) (w : World) (hn : n < 18446744073709551616) (g : Nat) (hg : g = w.heap.size) :
    Calls Try.prog 13 #[.slice (some ⟨g, 0, none⟩) 8 8] (w.alloc (.cells (Bs (putN n)).toArray 51)) fun e w' => e = .returned (.tuple #[.int .u64 n, .int .i64 0]) ∧ Below (w.heap.size + 1) (w.alloc (.cells (Bs (putN n)).toArray 51)) w' := by
  have hb := bin_lit w g (Bs (putN n)).toArray 51 (0, 0) (putN n) hg rfl (putN_bytes n hn)
  have := get_ok _ 8 _ _ _ _ _ _ _ _ _ hb
  rw [join_put n hn] at this
  simpa using this
theorem text_back (s : ByteArray) (xs : List Nat) (hs : s.size ≤ 10000) : readN (textN s ++ xs) = some (s.size, (smallN s.size).length) := by
  rw [textN, List.append_assoc]; exact read_back s.size _ (by omega)
theorem text_take (s : ByteArray) (xs : List Nat) : strOf (((textN s ++ xs).drop (smallN s.size).length).take s.size) = s := by
  rw [textN, List.append_assoc, List.drop_left, ← numsOf_len s, List.take_left, strOf_nums]
theorem text_drop (s : ByteArray) (xs : List Nat) : (textN s ++ xs).drop ((smallN s.size).length + s.size) = xs := by
  have : (smallN s.size).length + s.size = (textN s).length := by simp [textN, numsOf_len]
  rw [this, List.drop_left]
theorem textN_bytes (s : ByteArray) : ∀ c ∈ textN s, c < 256 := by
  intro c hc
  rcases List.mem_append.1 hc with h | h
  · exact smallN_bytes _ c h
  · exact numsOf_lt s c h
theorem app_bytes {xs ys : List Nat} (hx : ∀ c ∈ xs, c < 256) (hy : ∀ c ∈ ys, c < 256) : ∀ c ∈ xs ++ ys, c < 256 := by
  intro c hc
  rcases List.mem_append.1 hc with h | h
  · exact hx c h
  · exact hy c h

theorem cut_text (g len cap : Nat) (s : ByteArray) (xs : List Nat) (w : World) (hs : s.size ≤ 10000) (hx : xs.length ≤ 10000) (hlen : len = (textN s).length + xs.length) (hb : BIn w (some ⟨g, 0, none⟩) (textN s ++ xs)) (hc : (textN s ++ xs).length ≤ cap) :
    Calls Try.prog 12 #[.slice (some ⟨g, 0, none⟩) len cap] w fun e w' => ∃ v, e = .returned (.tuple #[.string s, v, .int .i64 0]) ∧ w'.ownsRow w.heap.size 5 1 v xs.length (Bs xs) ∧ Below w.heap.size w w' := by
  have lt : (textN s).length = (smallN s.size).length + s.size := by simp [textN, numsOf_len]
  have ht10 := smallN_ten s.size (by omega)
  have hcut := cut_ok (some ⟨g, 0, none⟩) cap (textN s ++ xs) w hb (by simp; omega) hc s.size (smallN s.size).length (text_back s xs hs) (by simp; omega)
  rw [text_take, text_drop, List.length_append, ← hlen] at hcut
  exact hcut

/-! ### STEP 1: THE WALK -/
set_option maxHeartbeats 1000000 in
theorem walk_big (n : Nat) (s : ByteArray) (p : Option Addr) (len cap : Nat) (w : World) (hbig : 10000 < s.size ∨ 10000 < len) :
    Calls Try.prog 6 #[.int .u64 n, .string s, .slice p len cap] w fun e w' => e = .returned (.bool true) ∧ Below w.heap.size w w' := by
  by_cases h1 : 10000 < s.size
  · clear hbig
    go_enter Try.func6, Try.ntmps6
    go_wp2_with (go_at_call 14; refine (alive_any _).mono ?_; rintro e w1 ⟨rfl, hb1⟩)
    go_ret
    exact ⟨rfl, hb1⟩
  · have h2 : 10000 < len := by omega
    clear hbig
    go_enter Try.func6, Try.ntmps6
    go_wp2_with (go_at_call 14; refine (alive_any _).mono ?_; rintro e w1 ⟨rfl, hb1⟩)
    go_ret
    exact ⟨rfl, hb1⟩
set_option maxHeartbeats 2000000 in
theorem walk_main (n : Nat) (hn : n < 18446744073709551616) (s : ByteArray) (hs : s.size ≤ 10000) (p : Option Addr) (cap : Nat) (xs : List Nat) (hx : xs.length ≤ 10000) (w : World) (hin : BIn w p xs) (hp : p = none → cap = 0) :
    Calls Try.prog 6 #[.int .u64 n, .string s, .slice p xs.length cap] w fun e w' => e = .returned (.bool true) ∧ Below w.heap.size w w' := by
  have hten := smallN_ten n hn
  have hpos := smallN_pos n
  have hP : Hid (p = none → cap = 0) := hp
  have hI : Hid (BIn w p xs) := hin
  clear hp hin
  go_enter Try.func6, Try.ntmps6
  go_wp2_with fail
  refine (alive_any _).mono ?_
  rintro e w1 ⟨rfl, hb1⟩
  have z1 := hb1.size
  go_wp2_with fail
  refine (put_any n _ hn).mono ?_
  rintro e w2 ⟨w3, rfl, rfl, hb3⟩
  have z3 := hb3.size
  go_wp2_with fail
  refine (get_put n w3 hn _ rfl).mono ?_
  rintro e w4 ⟨rfl, hb4⟩
  have z4 := hb4.size
  rw [World.size_alloc] at z4
  have b4 : Below w.heap.size w w4 := ((hb1.trans (hb3.mono z1)).alloc (by omega) _).trans (hb4.mono (by omega))
  clear hb1 hb3 hb4
  go_wp2_with fail
  refine (small_any n _ hn).mono ?_
  rintro e w5 ⟨v, rfl, hown, hb5⟩
  have z5 := hb5.size
  have b5 : Below w.heap.size w w5 := b4.trans (hb5.mono (by omega))
  have I5 := BIn.below hI.out b5
  have l5 : Hid ((smallN n).length + xs.length ≤ 140737488355328) := by show _ ≤ _; omega
  clear b4
  go_wp2_with (at_builtin; refine wpList_append_bytes _ rfl _ _ rfl w4.heap.size _ (smallN n) xs p _ cap rfl rfl rfl hown I5 hP.out l5.out z5 ?_)
  intro v6 w6 hown6 hgrow6
  have z6 := hgrow6.size
  have b6 : Below w.heap.size w w6 := b5.grown hgrow6 (by omega) (fun k hk => by have := (hown.lt k hk).1; omega)
  obtain ⟨g6, c6, rfl⟩ := ownsRow_form hown6 (by omega)
  have B6 := own_at hown6 (by simp) (app_bytes (smallN_bytes n) I5.2)
  clear hown hown6 hgrow6 I5 b5 hb5
  go_wp2_with fail
  refine (read_some _ _ _ (smallN n ++ xs) _ n (smallN n).length (by simp) B6 (by unfold maxLen; simp; omega) (read_back n xs hn)).mono ?_
  rintro e w7 ⟨rfl, rfl⟩
  clear B6
  go_wp2_with fail
  refine (text_any s _ (by omega)).mono ?_
  rintro e w8 ⟨v8, rfl, hown8, hb8⟩
  have z8 := hb8.size
  have b8 : Below w.heap.size w w8 := b6.trans (hb8.mono (by omega))
  have I8 := BIn.below hI.out b8
  have lt : (textN s).length = (smallN s.size).length + s.size := by simp [textN, numsOf_len]
  have LT : Hid _ := lt
  clear lt
  have ht10 := smallN_ten s.size (by omega)
  have htpos := smallN_pos s.size
  have l8 : Hid ((textN s).length + xs.length ≤ 140737488355328) := by show _ ≤ _; rw [LT.out]; omega
  go_wp2_with (at_builtin; refine wpList_append_bytes _ rfl _ _ rfl w7.heap.size _ (textN s) xs p _ cap rfl rfl rfl hown8 I8 hP.out l8.out z8 ?_)
  intro v9 w9 hown9 hgrow9
  have z9 := hgrow9.size
  have b9 : Below w.heap.size w w9 := b8.grown hgrow9 (by omega) (fun k hk => by have := (hown8.lt k hk).1; omega)
  obtain ⟨g9, c9, rfl⟩ := ownsRow_form hown9 (by rw [LT.out]; omega)
  have B9 := own_at hown9 (by simp) (app_bytes (textN_bytes s) I8.2)
  have C9 := (show (textN s ++ xs).length ≤ c9 from by
    rcases hown9.2 with ⟨h, _⟩ | ⟨g, cap', cur, h, _, _, hle, _⟩
    · cases h
    · simp only [Value.slice.injEq, Option.some.injEq] at h
      rw [h.2.2]; simpa using hle)
  clear hown8 hown9 hgrow9 I8 b8 hb8 l8 l5 b6
  go_wp2_with fail
  refine (cut_text _ _ _ s xs _ hs hx rfl B9 C9).mono ?_
  rintro e w10 ⟨v10, rfl, hown10, hb10⟩
  have z10 := hb10.size
  have b10 : Below w.heap.size w w10 := b9.trans (hb10.mono (by omega))
  have hform : ∃ q c, v10 = .slice q xs.length c := by
    rcases ownsRow_forms hown10 with ⟨h, h0⟩ | ⟨g, c, h⟩
    · exact ⟨none, 0, by rw [h, h0]⟩
    · exact ⟨_, c, h⟩
  obtain ⟨q10, c10, hv10⟩ := hform
  rw [hv10] at hown10 ⊢
  have B10 := own_at hown10 rfl (BIn.below hI.out b10).2
  clear B9 C9 hb10 b9 hown10 hv10
  go_wp2_with fail
  refine (small_any n _ hn).mono ?_
  rintro e w11 ⟨v11, rfl, hown11, hb11⟩
  have z11 := hb11.size
  have b11 : Below w.heap.size w w11 := b10.trans (hb11.mono (by omega))
  obtain ⟨g11, c11, rfl⟩ := ownsRow_form hown11 (by omega)
  have I11 := BIn.below hI.out b11
  have B11 := BIn.below B10 hb11
  clear hown11 B10 b10 hb11
  go_wp2_with fail
  refine (same_eq _ _ _ _ _ _ xs xs _ rfl rfl rfl B11 I11).mono ?_
  rintro e w12 ⟨rfl, rfl⟩
  clear B11 I11
  go_wp2
  go_ret
  exact ⟨rfl, b11⟩

theorem walk (a0 : Int) (a1 : ByteArray) (a2 : Option Addr) (len2 cap2 : Nat) (z2 : List Int) (w : World) (w0 : (Lit.int .u64 a0).wf = true) (w1 : a1.size ≤ maxLen) (w2 : IsRow .u8 w a2 len2 cap2 z2) :
    Calls Try.prog 6 #[.int .u64 a0, .string a1, .slice a2 len2 cap2] w fun e w' => e = .returned (.bool true) ∧ Below w.heap.size w w' := by
  have hb := bounds_u64 w0
  obtain ⟨n, rfl⟩ := Int.eq_ofNat_of_zero_le hb.1
  obtain ⟨xs, rfl, hin, hc, hm, hp⟩ := row_bin w2
  by_cases h : 10000 < a1.size ∨ 10000 < xs.length
  · exact walk_big n a1 a2 _ cap2 w h
  · exact walk_main n (by omega) a1 (by omega) a2 cap2 xs (by omega) w hin hp

/-! ### THE ROW's STEP: WRITTEN OUT: LEAVE IT -/
set_option maxRecDepth 100000 in
theorem lifted (os : Os) (started : os.Started) (H : Type) (enc : TypeId × Value → H) :
    ReturnsInHanded {} Try.checked os 6 .any (Rows.bitsBackSpec.pre6 enc Try.prog Try.f6 Rows.bitsBackRow.domain false) (Rows.bitsBackSpec.post enc Try.prog Try.f6 false true false false) := by
  refine returnsInHanded_of_change (C := Try.checked) own started (by kernel_rfl) Try.func6
    (ChangeSpec.witness6 (enc := enc) (C := Try.checked) false ⟨#[], #[.int .u64 0, .string ByteArray.empty, .slice none 0 0], []⟩ 8 (by kernel_rfl) (by kernel_rfl) (by kernel_rfl) (by kernel_rfl)) ?_
  intro W base args ds gs before hval0 hW hcnd _
  have hval : ∀ (j : Nat) t v, Try.f6.params[j]? = some t → args[j]? = some v → Value.okWide Try.prog W .any base t v := hval0
  have hW' := hW
  obtain ⟨p, q, hA0, hV, rfl, hfz, hnd⟩ := hW
  have hA : DataW.TrodAll enc Try.prog W 0 (fun _ => true) true Try.f6.params.toList args.toList ds p := hA0
  rw [Try.params6] at hA hval
  obtain ⟨v0, vs0, d0, ds0, p0, q0, hargs, rfl, rfl, h0, r0⟩ := trodAll_cons hA
  obtain ⟨v1, vs1, d1, ds1, p1, q1, rfl, rfl, rfl, h1, r1⟩ := trodAll_cons r0
  obtain ⟨v2, vs2, d2, ds2, p2, q2, rfl, rfl, rfl, h2, r2⟩ := trodAll_cons r1
  obtain ⟨rfl, rfl, rfl⟩ := trodAll_nil r2
  obtain rfl : args = #[v0, v1, v2] := by cases args; simp_all
  obtain ⟨rfl, rfl⟩ := trodVars_none hV
  obtain ⟨a0, rfl, rfl, rfl, w0⟩ := open_int Try.underlying22 (hval 0 22 v0 rfl rfl) h0
  obtain ⟨a1, rfl, rfl, rfl, w1⟩ := open_string Try.underlying9 (hval 1 9 v1 rfl rfl) h1
  obtain ⟨a2, len2, cap2, rfl⟩ := okWide_slice Try.underlying26 (hval 2 26 v2 rfl rfl)
  have k2 := h2
  have lt2 : ∀ x ∈ p2, x.block < W.heap.size := by obtain ⟨m, hm⟩ := k2; exact DataW.trod_lt m _ _ _ hm
  obtain ⟨z2, w2⟩ : ∃ zs, IsRow .u8 W a2 len2 cap2 zs := by
    obtain ⟨fuel, hf⟩ := h2
    rcases open_ints Try.underlying26 Try.underlying5 (by kernel_rfl) hf with ⟨hcs, _⟩ | ⟨x, l, c, zs, hcs, _, hl, hm, hz, _, hcell, hwz⟩
    · simp [Value.cells] at hcs
      obtain ⟨rfl, rfl, rfl⟩ := hcs
      exact ⟨[], .inl ⟨rfl, rfl, rfl, rfl⟩⟩
    · simp [Value.cells] at hcs
      obtain ⟨rfl, rfl, rfl⟩ := hcs
      exact ⟨zs, .inr ⟨_, rfl, hl, hm, by simpa using hz, hcell, hwz⟩⟩
  clear hA0 hval0
  refine (walk a0 a1 a2 len2 cap2 z2 W w0 w1 w2).mono fun e W' ⟨he, bel⟩ => ?_
  subst he
  exact ⟨_, rfl, _, _, _, [], _, [], hW', trodAll_mk1 (shut_bool Try.underlying4 _), (trodAll_cons_mk (shut_int Try.underlying22 w0) (trodAll_cons_mk (shut_string Try.underlying9 w1) (trodAll_cons_mk (Below.trod laidOut (by kernel_rfl) (of_decide_eq_true (by kernel_rfl)) k2 bel lt2) trodAll_mk0))), rfl, bel.frame _, fun h => by cases h⟩

theorem over : Rows.bitsBackRow.holds Try.pinned (OpenSpec.ofChange Rows.bitsBackSpec) :=
  OpenClaim.holds_of_wide 6 Try.f6 rfl rfl rfl rfl rfl rfl rfl ⟨rfl, rfl, rfl, rfl, rfl⟩ rfl rfl rfl rfl rfl (by kernel_rfl) Try.func6 (by kernel_rfl)
    (of_decide_eq_true (by kernel_rfl)) (by unfold Func.isWrapper; first | (rw [if_pos (by decide +kernel)]; kernel_rfl) | (rw [if_neg (by decide +kernel)]; exact ⟨rfl, rfl⟩))
    (fun os started H enc _ => lifted os started H enc)

theorem proved : Rows.BitsBackSaid := over
end Go.Proofs.Ytdbgbaclgdkkjaa.bitsBack
namespace Go.Proofs.Ytdbgbaclgdkkjaa
theorem bitsBack_holds : Rows.BitsBackSaid := bitsBack.proved
#print axioms bitsBack_holds
end Go.Proofs.Ytdbgbaclgdkkjaa
