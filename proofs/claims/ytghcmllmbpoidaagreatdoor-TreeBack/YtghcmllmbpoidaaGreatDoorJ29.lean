import Derived.Test.YtghcmllmbpoidaaGreatDoorJ28
namespace Go.Proofs.YtghcmllmbpoidaaGreatDoor.Lg
open Go.RowKit Go.WideShapes
structure HasLog (count : Int) (data : List Nat) (ws : Puts) : Prop where
  ok : Okay count data ws
  big : 80 ≤ count
theorem own_mono {w : World} {base base' n s : Nat} {e : TypeId} {v : Value} {xs : List Value} (h : w.ownsRow base e s v n xs) (hb : base' ≤ base) : w.ownsRow base' e s v n xs := by
  refine ⟨h.1, ?_⟩
  rcases h.2 with h' | ⟨g, cap, cur, h1, h2, h3⟩
  · exact .inl h'
  · exact .inr ⟨g, cap, cur, h1, Nat.le_trans hb h2, h3⟩
set_option maxHeartbeats 1000000 in
theorem Records_ok (v : Value) (count : Int) (data : List Nat) (ws : Puts) (w : World) (hd : DiskIn w v count data ws) (hl : HasLog count data ws) (E : Nat) (hE : epochN (logN data ws) = E) (hE0 : E ≠ 0) :
    Calls Tryz.prog 45 #[v] w fun e w' => ∃ (rv : Value) (l : List (List Nat)) (a la : Nat) (t : List Nat), e = .returned (.tuple #[rv, .int .i64 0]) ∧ Recs E 0 ((logN data ws).drop 128) l a la t ∧ w'.ownsRow w.heap.size 9 1 rv l.length (l.map fun r => .string (strOf r)) ∧ Below w.heap.size w w' := by
  obtain ⟨p, c, q, m, rfl, _⟩ := hd.parts
  have HD : Hid _ := hd
  have HL : Hid (HasLog count data ws) := hl
  have HE : Hid (epochN (logN data ws) = E ∧ E ≠ 0) := ⟨hE, hE0⟩
  clear hd hl hE hE0
  go_enter Tryz.func45, Tryz.ntmps45
  go_wp2_with fail
  refine (load_main _ count data ws _ (HD.out.below (below_alloc w _)) HL.out.ok HL.out.big E HE.out.1).mono ?_
  rintro e w1 (⟨h0, _⟩ | ⟨_, rv, l, a, la, t, tq, tc, rfl, hrec, hown, h1, h2, hbin, hb1⟩)
  · exact absurd h0 HE.out.2
  obtain ⟨rq, rm, rfl, _, _, _⟩ := own_form hown
  have HB : Hid (Below w.heap.size w (w1.alloc (.cells #[.int .u32 E, .slice rq l.length rm, .int .i64 (a : Nat), .int .u32 (la : Nat), .slice tq t.length tc] 149))) := below_bt (below_bt (below_alloc w _) hb1) (below_alloc _ _)
  have HO : Hid ((w1.alloc (.cells #[.int .u32 E, .slice rq l.length rm, .int .i64 (a : Nat), .int .u32 (la : Nat), .slice tq t.length tc] 149)).ownsRow w.heap.size 9 1 (.slice rq l.length rm) l.length (l.map fun r => .string (strOf r))) := own_below (own_mono hown (by simp)) (below_alloc _ _)
  have HR : Hid (Recs E 0 ((logN data ws).drop 128) l a la t) := hrec
  clear hown h1 h2 hbin hb1 hrec
  go_wp2
  go_ret2
  exact ⟨.slice rq l.length rm, l, a, la, t, rfl, HR.out, HO.out, HB.out⟩
def headL (M : Nat) : List Nat := putN M ++ List.replicate 120 0
theorem headL_len (M : Nat) : (headL M).length = 128 := by simp [headL, putN]
theorem headL_byte {M : Nat} (h : M < 18446744073709551616) : ∀ c ∈ headL M, c < 256 := by
  intro c hc
  rcases List.mem_append.1 hc with h1 | h1
  · exact putN_bytes M h c h1
  · have := (List.mem_replicate.1 h1).2; omega
theorem logIs_len {data : List Nat} {ws : Puts} (h : LogIs data ws 64) : (logN data ws).length = 64 * 128 := h.len
theorem head_splice (M : Nat) : (z128.take 0 ++ (putN M ++ z128.drop (0 + (putN M).length))) = headL M := by
  simp [headL, z128, putN]
theorem actsK_head (fr : Int) (xs : List Nat) (h : xs.length = 128) : actsK fr xs 1 = [(false, fr, xs)] := by
  unfold actsK secAt
  simp [List.take_of_length_le (Nat.le_of_eq h)]
def clearActs (M : Nat) : List (Bool × Int × List Nat) := [(false, 16, headL M), (true, 0, [])]
set_option maxRecDepth 8000 in
set_option maxHeartbeats 2000000 in
theorem Clear_ok (v : Value) (count : Int) (data : List Nat) (ws : Puts) (w : World) (hd : DiskIn w v count data ws) (hl : HasLog count data ws) (M : Nat) (hM' : mostE (logN data ws) 63 + 1 = M) (hM : M < 4294967296) :
    Calls Tryz.prog 17 #[v] w fun e w' => ∃ v l, e = .returned (.tuple #[v, .int .i64 0]) ∧ AOwn w' w.heap.size v l ∧ l.map Prod.fst = clearActs M ∧ Below w.heap.size w w' := by
  obtain ⟨p, c, q, m, rfl, _⟩ := hd.parts
  have HD : Hid _ := hd
  have HL : Hid (HasLog count data ws) := hl
  obtain ⟨i0, hi, hz0, hz1, hz2⟩ := info_parts info5
  obtain ⟨j0, ji, jz0, jz1, jz2⟩ := info_parts info_act
  have HM : Hid (mostE (logN data ws) 63 + 1 = M ∧ M < 4294967296) := ⟨hM', hM⟩
  have g1 : decide ((4294967295 : Int) < (M : Int)) = false := decide_eq_false (by omega)
  clear hd hl hM hM'
  go_enter Tryz.func17, Tryz.ntmps17
  go_wp2_with fail
  refine (now_ok _ count data ws _ (HD.out.below (below_alloc w _)) HL.out.ok HL.out.big).mono ?_
  rintro e w1 ⟨v1, rfl, hown, hli, hb1⟩
  obtain ⟨b, cc, A, rfl, hbg, hcc1, hcc2, hblk, hbin⟩ := own_row5 hown (by rw [logIs_len hli]; omega) rfl hli.byte
  have HB1 : Hid (Below w.heap.size w w1) := below_bt (below_alloc w _) hb1
  rw [logIs_len hli] at hcc1 ⊢
  have HNE : Hid (∀ w', w' = w1 → Calls Tryz.prog 35 #[.slice (some ⟨b, 0, none⟩) (64 * 128) cc] w' fun e w2 => e = .returned (.int .u64 M) ∧ Below w'.heap.size w' w2) := fun w' hw => by
    subst hw
    have := nextEpoch_any b 0 cc 64 (logN data ws) w' (logIs_len hli) (by omega) (by omega) hcc1 hcc2 (hbin w' hblk)
    rw [show 64 - 1 = 63 from rfl, HM.out.1] at this
    exact this
  clear hown hli hb1 hbg hcc1 hcc2 hblk hbin
  generalize 64 * 128 = L at *
  go_wp2_with fail
  refine (HNE.out _ rfl).mono ?_
  rintro e w2 ⟨rfl, hb2⟩
  have HB2 : Hid (Below w.heap.size w w2) := below_bt HB1.out hb2
  clear hb2 HNE
  go_wp2_with (at_make; refine wpList_make_full _ rfl _ _ 32 rfl w2.heap.size 5 i0 (.int .u8 0) 1 Tryz.underlying32 hi hz0 hz1 .i64 .i64 _ _ 128 rfl rfl rfl rfl (by rw [hz2]; decide) (by decide) (by simp) ?_)
  intro w3 hown3 hgrow3
  have hb3 : Below w2.heap.size w2 w3 := (Below.refl _ _).grown hgrow3 (Nat.le_refl _) (fun k hk => by cases hk)
  have hrow := row_full' hown3
  rw [zeros_made] at hrow
  have HR3 : Hid (w3.heap[w2.heap.size]? = some (.cells (Bs z128).toArray 5 (0, 0))) := hrow
  have HB3 : Hid (Below w2.heap.size w2 w3) := hb3
  clear hown3 hgrow3 hrow hb3
  go_wp2_with fail
  refine (put_any M _ (by have := HM.out; omega)).mono ?_
  rintro x w4 ⟨w5, rfl, hw4, hb4⟩
  have HIN : Hid (BIn w4 (some ⟨w5.heap.size, 0, none⟩) (putN M)) := by rw [hw4]; exact bin_alloc w5 (putN M) _ (putN_bytes M (by have := HM.out; omega))
  have hb4' : Below w3.heap.size w3 w4 := by rw [hw4]; exact hb4.alloc hb4.size _
  have HR4 : Hid (w4.heap[w2.heap.size]? = some (.cells (Bs z128).toArray 5 (0, 0))) := (hb4'.block _ (lt_heap HR3.out)).trans HR3.out
  have HB4 : Hid (Below w2.heap.size w2 w4) := below_bt HB3.out hb4'
  obtain ⟨cs, HCS⟩ : ∃ cs, Hid (cs = Bs (putN M)) := ⟨_, rfl⟩
  have HI3 : Hid (0 < cs.length → ∃ ad, some (⟨w5.heap.size, 0, none⟩ : Addr) = some ad ∧ ∀ j v, cs[j]? = some v → w4.cell? (ad.add j) = some v) := by
    intro _
    exact ⟨_, rfl, by rw [HCS.out]; exact bin_cells HIN.out⟩
  have HL3 : Hid (cs.length = Nat.min 8 128) := by show _ = _; rw [HCS.out, Bs_len]; rfl
  have HF3 : Hid (0 + cs.length ≤ (Bs z128).length) := by show _ ≤ _; rw [HCS.out, Bs_len, Bs_len]; exact (by decide : 0 + 8 ≤ z128.length)
  have HO3 : Hid (∀ v ∈ cs, v.oneCell' = true) := by show ∀ v ∈ cs, _; rw [HCS.out]; exact Bs_one _
  clear hw4 hb4 hb4' HIN HR3 HB3
  go_wp2_with (refine wpList_copy_splice (o := ⟨some 24, _, _, _, _, _⟩) rfl (.tmp 21) (.tmp 23) 32 32 rfl 5 Tryz.underlying32 size5 (some ⟨w2.heap.size, 0, none⟩) (some ⟨w5.heap.size, 0, none⟩) 128 128 8 8 rfl rfl w2.heap.size 0 (Bs z128) 5 HR4.out cs HL3.out (fun h => ⟨rfl, HI3.out h⟩) HF3.out HO3.out w2.heap.size w2 HB4.out (Nat.le_refl _) ?_)
  intro w6 hrow6 hb6
  have hr6 : w6.heap[w2.heap.size]? = some (.cells (Bs (headL M)).toArray 5 (0, 0)) := by rw [hrow6.out, HCS.out, Bs_splice, head_splice]
  have HI6 : Hid (BIn w6 (some ⟨w2.heap.size, 0, none⟩) (headL M)) := bin_row hr6 (headL_byte (by have := HM.out; omega))
  have HB6 : Hid (Below w.heap.size w w6) := below_bt HB2.out hb6
  clear hrow6 hb6 hr6 HI3 HL3 HF3 HO3 HCS HR4 HB4
  go_wp2_with fail
  refine (writes_any 16 w2.heap.size 0 1 128 128 (headL M) _ (by omega) (by omega) (headL_len M).symm (by omega) (by omega) (by omega) (by omega) (by unfold maxLen; omega) HI6.out).mono ?_
  rintro x w7 ⟨v7, l7, rfl, ha7, hm7, hb7⟩
  have HB7 : Hid (Below w.heap.size w w7) := below_bt HB6.out hb7
  have hz6 := HB6.out.size
  have HM7 : Hid (l7.map Prod.fst = [(false, 16, headL M)]) := by show _ = _; rw [hm7, actsK_head _ _ (headL_len M)]
  obtain ⟨lq, lm, rfl, _, _⟩ := ha7.form
  have HL7 : Hid (l7.length = 1) := by have := congrArg List.length HM7.out; show _ = _; simpa using this
  have HA8 : Hid (AOwn (w7.alloc (.cells #[.bool true, .int .i64 0, .slice none 0 0] 90)) w.heap.size (.slice lq l7.length lm) l7) := by
    have h : AOwn w7 w.heap.size (.slice lq l7.length lm) l7 := ⟨own_mono ha7.row hz6, fun y hy => (ha7.data y hy).mono hz6⟩
    exact h.below (below_alloc _ _)
  have HB8 : Hid (Below w.heap.size w (w7.alloc (.cells #[.bool true, .int .i64 0, .slice none 0 0] 90))) := below_bt HB7.out (below_alloc _ _)
  have HCL : Hid (∀ j u, [Value.bool true, .int .i64 0, .slice none 0 0][j]? = some u → (w7.alloc (.cells #[.bool true, .int .i64 0, .slice none 0 0] 90)).cell? ((⟨w7.heap.size, 0, none⟩ : Addr).add j) = some u) := act_cells w7 _ _ _ _
  have HD8 : Hid (DataIs (w7.alloc (.cells #[.bool true, .int .i64 0, .slice none 0 0] 90)) w.heap.size (.slice none 0 0) []) := .inl ⟨rfl, rfl⟩
  clear ha7 hm7 hb7 HI6
  go_wp2_with (at_builtin; go_loud (refine wpList_append_own _ rfl _ _ 51 rfl w.heap.size 90 j0 _ 3 40 Tryz.underlying51 ji jz0 jz1 jz2 rfl (by omega) _ _ _ rfl HA8.out.row ⟨w7.heap.size, 0, none⟩ 1 1 [.bool true, .int .i64 0, .slice none 0 0] rfl rfl HCL.out (act_one _ _ _ _ _) (by have := HL7.out; unfold maxLen; omega) (by have := HL7.out; omega) HB8.out.size ?_); intro va ua hoa hga _; have A5 := HA8.out.push HD8.out hoa hga; have B5 := HB8.out.grown hga HB8.out.size (fun k hk => (World.ownsRow.lt HA8.out.row k hk).1); have HA5 : Hid _ := A5; have HB5 : Hid _ := B5; clear A5 B5 hoa hga)
  go_ret2
  exact ⟨_, _, rfl, HA5.out, by rw [List.map_append, HM7.out]; rfl, HB5.out⟩
theorem Recs.facts {E p : Nat} {ys : List Nat} {l : List (List Nat)} {a la : Nat} {t : List Nat} (h : Recs E p ys l a la t) : ∀ {n : Nat}, ys.length = n * 128 → p < 4294967296 → a ≤ n ∧ t = ys.drop (a * 128) ∧ la < 4294967296 := by
  induction h with
  | stop h => intro n hy hp; exact ⟨by omega, by simp, hp⟩
  | @next p s ys r l a la t hr h ih =>
    intro n hy hp
    have h1 := rec_len hr
    have h2 := ih (n := n - needsN r.length) (by rw [List.length_drop]; omega) hr.salt
    refine ⟨by omega, ?_, h2.2.2⟩
    rw [h2.2.1, List.drop_drop]
    congr 1
    omega
theorem Recs.only {E p : Nat} {ys : List Nat} {l : List (List Nat)} {a la : Nat} {t : List Nat} (h : Recs E p ys l a la t) (hE : E < 4294967296) : ∀ {l' : List (List Nat)} {a' la' : Nat} {t' : List Nat}, p < 4294967296 → Recs E p ys l' a' la' t' → l = l' ∧ a = a' ∧ la = la' ∧ t = t' := by
  induction h with
  | stop h =>
    intro l' a' la' t' hp h'
    cases h' with
    | stop _ => exact ⟨rfl, rfl, rfl, rfl⟩
    | next hr _ => exact absurd hr (h _ _)
  | @next p s ys r l a la t hr h ih =>
    intro l' a' la' t' hp h'
    cases h' with
    | stop h' => exact absurd hr (h' _ _)
    | next hr' h2 =>
      obtain ⟨e1, e2⟩ := rec_only hE hp hr hr'
      subst e1
      subst e2
      obtain ⟨e1, e2, e3, e4⟩ := ih hr.salt h2
      subst e1 e2 e3 e4
      exact ⟨rfl, rfl, rfl, rfl⟩
theorem frame_b (e s p : Nat) (r : ByteArray) (m : Nat) (w : World) (he : e < 4294967296) (hs : s < 4294967296) (hp : p < 4294967296) (hr : r.size ≤ 4096) (hm : needsN r.size * 128 = m) :
    Calls Tryz.prog 128 #[.int .u32 e, .int .u32 s, .int .u32 p, .string r] w fun x w' => ∃ fb fm, x = .returned (.slice (some ⟨fb, 0, none⟩) m fm) ∧ m ≤ fm ∧ fm ≤ maxLen ∧ BIn w' (some ⟨fb, 0, none⟩) (frameN e s p (numsOf r)) ∧ Below w.heap.size w w' := by
  refine (frame_any e s p r w he hs hp hr).mono ?_
  rintro x w' ⟨v, rfl, ho, hb⟩
  have hl : (frameN e s p (numsOf r)).length = m := by rw [frameN_len, numsOf_len]; exact hm
  have hpos := needsN_pos r.size
  obtain ⟨g, c, A, rfl, _, h1, h2, h3, h4⟩ := own_row5 ho (by omega) rfl (frameN_byte (numsOf_lt r))
  rw [hl] at h1 ⊢
  exact ⟨g, c, rfl, h1, h2, h4 w' h3, hb⟩
theorem keep2 {w3 w4 : World} {g : Nat} {a b c d e : Value} {t : TypeId} (hx : w3.heap[g]? = some (.cells #[a, b, c, d, e] t (0, 0))) (h : Below w3.drew.heap.size w3.drew w4) : w4.cell? ⟨g, 2, none⟩ = some c :=
  cell_of_row w4 _ 2 _ _ _ (((below_dw h).block _ (lt_heap hx)).trans hx)
set_option maxRecDepth 8000 in
set_option maxHeartbeats 4000000 in
theorem Add_ok (v : Value) (r : ByteArray) (count : Int) (data : List Nat) (ws : Puts) (w : World) (hd : DiskIn w v count data ws) (hl : HasLog count data ws) (hlen : (logN data ws).length = 64 * 128) (E : Nat) (hE : epochN (logN data ws) = E) (hE0 : E ≠ 0) (hr : r.size ≤ 4096)
    (l : List (List Nat)) (a la : Nat) (t : List Nat) (S : Nat) (hrec : Recs E 0 ((logN data ws).drop 128) l a la t) (hS : mostS E t (63 - a) + 1 = S) (hS2 : S < 4294967296) (hfit : needsN r.size ≤ 63 - a) :
    Calls Tryz.prog 100 #[v, .string r] w fun e w' => ∃ v L, e = .returned (.tuple #[v, .int .i64 0]) ∧ AOwn w' w.heap.size v L ∧ L.map Prod.fst = actsK ((17 + a : Nat) : Int) (frameN E S la (numsOf r)) (needsN r.size) ∧ Below w.heap.size w w' := by
  obtain ⟨p, c, q, m, rfl, _⟩ := hd.parts
  have HD : Hid _ := hd
  have HL : Hid (HasLog count data ws) := hl
  have hE32 : E < 4294967296 := hE ▸ epochN_lt _
  obtain ⟨ha, ht, hla⟩ := hrec.facts (n := 63) (by rw [List.length_drop, hlen]) (by omega)
  have htl : t.length = (63 - a) * 128 := by rw [ht]; exact drop_len (by rw [List.length_drop, hlen])
  obtain ⟨k, hk⟩ : ∃ k, needsN r.size = k := ⟨_, rfl⟩
  have hk0 := needsN_pos r.size
  rw [hk] at hk0 hfit
  have HE : Hid (epochN (logN data ws) = E ∧ E ≠ 0 ∧ E < 4294967296 ∧ la < 4294967296 ∧ S < 4294967296 ∧ r.size ≤ 4096) := ⟨hE, hE0, hE32, hla, hS2, hr⟩
  have HR : Hid (Recs E 0 ((logN data ws).drop 128) l a la t) := hrec
  have HT : Hid (t.length = (63 - a) * 128 ∧ a ≤ 63 ∧ mostS E t (63 - a) + 1 = S ∧ k ≤ 63 - a ∧ needsN r.size = k ∧ 0 < k) := ⟨htl, ha, hS, hfit, hk, hk0⟩
  have hrI : (r.size : Int) ≤ 4096 := by omega
  have s1 : IntKind.i64.wrap ((63 : Int) - (a : Int)) = 63 - a := by rw [IntKind.wrap_i64]; omega
  have s2 : IntKind.i64.wrap ((17 : Int) + (a : Int)) = ((17 + a : Nat) : Int) := by rw [IntKind.wrap_i64]; omega
  have s3 : IntKind.u32.wrap (S : Int) = S := by rw [IntKind.wrap_u32']; omega
  have g1 : decide ((63 : Int) - (a : Int) < (k : Int)) = false := decide_eq_false (by omega)
  have g2 : decide ((4294967295 : Int) < (S : Int)) = false := decide_eq_false (by omega)
  clear hd hl hE hE0 hr hrec hS hS2 hfit hE32 ha ht hla htl hk hk0 hlen
  go_enter Tryz.func100, Tryz.ntmps100
  go_wp2_with fail
  refine (load_main _ count data ws _ (HD.out.below (below_alloc w _)) HL.out.ok HL.out.big E HE.out.1).mono ?_
  rintro e w1 (⟨h0, _⟩ | ⟨_, rv, l', a', la', t', tq, tc, rfl, hrec, hown, h1, h2, hbin, hb1⟩)
  · exact absurd h0 HE.out.2.1
  obtain ⟨rfl, rfl, rfl, rfl⟩ := HR.out.only HE.out.2.2.1 (by omega) hrec
  obtain ⟨rq, rm, rfl, _, _, _⟩ := own_form hown
  have hb1' : Below w.heap.size w w1 := below_bt (below_alloc w _) hb1
  rw [HT.out.1] at h1 ⊢
  have HNS : Hid (∀ w', Below w1.heap.size w1 w' → Calls Tryz.prog 126 #[.agg #[.int .u32 E, .slice rq l.length rm, .int .i64 (a : Nat), .int .u32 (la : Nat), .slice tq ((63 - a) * 128) tc]] w' fun x w2 => x = .returned (.int .u64 S) ∧ Below w'.heap.size w' w2) := fun w' hw => by
    have := nextSalt_any E rq l.length rm a la tq (63 - a) tc t w' HT.out.1 (by omega) h1 h2 (hbin.below hw)
    rw [HT.out.2.2.1] at this
    exact this
  generalize (63 - a) * 128 = T at *
  have HB1 : Hid (Below w.heap.size w w1) := hb1'
  clear hrec hown h1 h2 hbin hb1 hb1'
  go_wp2_with fail
  refine (HNS.out _ (below_alloc _ _)).mono ?_
  rintro x w2 ⟨rfl, hb2⟩
  have hx : w2.heap[w1.heap.size]? = some (.cells #[.int .u32 E, .slice rq l.length rm, .int .i64 (a : Nat), .int .u32 (la : Nat), .slice tq T tc] 149 (0, 0)) := (hb2.block _ (by simp)).trans (heap_alloc_new w1 _)
  have HX : Hid _ := hx
  obtain ⟨⟨c0, _, c2, c3, _⟩, _⟩ := five hx
  have HB2 : Hid (Below w.heap.size w w2) := below_bt (below_bt HB1.out (below_alloc _ _)) hb2
  clear hb2 HNS hx
  have HND : Hid (∀ w', Calls Tryz.prog 127 #[.string r] w' fun e w'' => e = .returned (.int .i64 k) ∧ w'' = w') := fun w' => needs_any r k w' (by have := HE.out; omega) HT.out.2.2.2.2.1
  go_upto_region 7 with fail
  go_quiet ((go_at_call 127; exact Calls.quiet_of_same (HND.out _)))
  go_upto_region 9 with fail
  have hx3 : (w2.drewN nq).heap[w1.heap.size]? = some (.cells #[.int .u32 E, .slice rq l.length rm, .int .i64 (a : Nat), .int .u32 (la : Nat), .slice tq T tc] 149 (0, 0)) := ((below_dr w2 nq).block _ (lt_heap HX.out)).trans HX.out
  have hb3 : Below w.heap.size w (w2.drewN nq) := below_bt HB2.out (below_dr _ _)
  generalize w2.drewN nq = w3 at *
  have HX3 : Hid _ := hx3
  have HB3 : Hid (Below w.heap.size w w3) := hb3
  clear c0 c2 c3 HX HB2 HND
  obtain ⟨⟨c0, _, c2, c3, _⟩, _⟩ := five hx3
  obtain ⟨F, hF⟩ : ∃ F, frameN E S la (numsOf r) = F := ⟨_, rfl⟩
  obtain ⟨M, hM⟩ : ∃ M, k * 128 = M := ⟨_, rfl⟩
  have HF : Hid (frameN E S la (numsOf r) = F ∧ k * 128 = M) := ⟨hF, hM⟩
  have HFR : Hid (∀ w', Calls Tryz.prog 128 #[.int .u32 E, .int .u32 S, .int .u32 la, .string r] w' fun x w'' => ∃ fb fm, x = .returned (.slice (some ⟨fb, 0, none⟩) M fm) ∧ M ≤ fm ∧ fm ≤ maxLen ∧ BIn w'' (some ⟨fb, 0, none⟩) F ∧ Below w'.heap.size w' w'') := fun w' => by
    have := frame_b E S la r M w' HE.out.2.2.1 HE.out.2.2.2.2.1 HE.out.2.2.2.1 HE.out.2.2.2.2.2 (by rw [HT.out.2.2.2.2.1]; exact hM)
    rw [hF] at this
    exact this
  have HFL : Hid (M = F.length) := by show _ = _; rw [← hF, frameN_len, numsOf_len, HT.out.2.2.2.2.1, hM]
  have HWR : Hid (∀ fb fm w', M ≤ fm → fm ≤ maxLen → BIn w' (some ⟨fb, 0, none⟩) F → Calls Tryz.prog 37 #[.int .i64 ((17 + a : Nat) : Int), .slice (some ⟨fb, 0, none⟩) M fm] w' fun e w'' => ∃ v l, e = .returned v ∧ AOwn w'' w'.heap.size v l ∧ l.map Prod.fst = actsK ((17 + a : Nat) : Int) F k ∧ Below w'.heap.size w' w'') := fun fb fm w' h1 h2 h3 =>
    writes_any ((17 + a : Nat) : Int) fb 0 k M fm F w' (by omega) (by have := HT.out; omega) HFL.out hM.symm HT.out.2.2.2.2.2 (by have := HT.out; omega) h1 h2 h3
  clear hF hM hx3 hb3 HFL
  go_region_with (first | (go_at_call 128; refine (HFR.out _).mono ?_; rintro x w4 ⟨fb, fm, rfl, h41, h42, h43, hb4⟩; have q2 := keep2 HX3.out hb4) | (go_at_call 37; refine (HWR.out fb fm _ h41 h42 h43).mono ?_; rintro x w5 ⟨v5, l5, rfl, ha5, hm5, hb5⟩))
  all_goals
    have hb45 := below_bt (below_bt HB3.out (below_dw hb4)) hb5
    have hb44 := (below_bt HB3.out (below_dw hb4)).size
    have HA : Hid (AOwn w5 w.heap.size v5 l5) := ⟨own_mono ha5.row hb44, fun y hy => (ha5.data y hy).mono hb44⟩
    have HM5 : Hid (l5.map Prod.fst = actsK ((17 + a : Nat) : Int) F k) := hm5
    have HB5 : Hid (Below w.heap.size w w5) := hb45
    clear ha5 hm5 hb45 hb44 hb4 hb5 h41 h42 h43
    go_wp2
    go_ret2
    exact ⟨_, _, rfl, HA.out, by rw [HF.out.1, HT.out.2.2.2.2.1]; exact HM5.out, HB5.out⟩
set_option maxRecDepth 8000 in
set_option maxHeartbeats 2000000 in
theorem Add_text (v : Value) (r : ByteArray) (count : Int) (data : List Nat) (ws : Puts) (w : World) (hd : DiskIn w v count data ws) (hl : HasLog count data ws) (E : Nat) (hE : epochN (logN data ws) = E) (hE0 : E ≠ 0) (hr : 4096 < r.size) :
    Calls Tryz.prog 100 #[v, .string r] w fun e w' => e = .returned (.tuple #[.slice none 0 0, .int .i64 3]) ∧ Below w.heap.size w w' := by
  obtain ⟨p, c, q, m, rfl, _⟩ := hd.parts
  have HD : Hid _ := hd
  have HL : Hid (HasLog count data ws) := hl
  have HE : Hid (epochN (logN data ws) = E ∧ E ≠ 0) := ⟨hE, hE0⟩
  have hrI : (4096 : Int) < (r.size : Int) := by omega
  clear hd hl hE hE0 hr
  go_enter Tryz.func100, Tryz.ntmps100
  go_wp2_with fail
  refine (load_main _ count data ws _ (HD.out.below (below_alloc w _)) HL.out.ok HL.out.big E HE.out.1).mono ?_
  rintro e w1 (⟨h0, _⟩ | ⟨_, rv, l', a', la', t', tq, tc, rfl, hrec, hown, h1, h2, hbin, hb1⟩)
  · exact absurd h0 HE.out.2
  obtain ⟨rq, rm, rfl, _, _, _⟩ := own_form hown
  have HB1 : Hid (Below w.heap.size w w1) := below_bt (below_alloc w _) hb1
  clear hrec hown h1 h2 hbin hb1
  go_wp2
  go_ret2
  exact ⟨rfl, below_bt HB1.out (below_alloc _ _)⟩
set_option maxRecDepth 8000 in
set_option maxHeartbeats 4000000 in
theorem Add_room (v : Value) (r : ByteArray) (count : Int) (data : List Nat) (ws : Puts) (w : World) (hd : DiskIn w v count data ws) (hl : HasLog count data ws) (hlen : (logN data ws).length = 64 * 128) (E : Nat) (hE : epochN (logN data ws) = E) (hE0 : E ≠ 0) (hr : r.size ≤ 4096)
    (l : List (List Nat)) (a la : Nat) (t : List Nat) (S : Nat) (hrec : Recs E 0 ((logN data ws).drop 128) l a la t) (hS : mostS E t (63 - a) + 1 = S) (hfit : 63 - a < needsN r.size) :
    Calls Tryz.prog 100 #[v, .string r] w fun e w' => e = .returned (.tuple #[.slice none 0 0, .int .i64 30]) ∧ Below w.heap.size w w' := by
  obtain ⟨p, c, q, m, rfl, _⟩ := hd.parts
  have HD : Hid _ := hd
  have HL : Hid (HasLog count data ws) := hl
  have hE32 : E < 4294967296 := hE ▸ epochN_lt _
  obtain ⟨ha, ht, hla⟩ := hrec.facts (n := 63) (by rw [List.length_drop, hlen]) (by omega)
  have htl : t.length = (63 - a) * 128 := by rw [ht]; exact drop_len (by rw [List.length_drop, hlen])
  obtain ⟨k, hk⟩ : ∃ k, needsN r.size = k := ⟨_, rfl⟩
  have hk0 := needsN_pos r.size
  rw [hk] at hk0 hfit
  have HE : Hid (epochN (logN data ws) = E ∧ E ≠ 0 ∧ E < 4294967296 ∧ la < 4294967296 ∧ r.size ≤ 4096) := ⟨hE, hE0, hE32, hla, hr⟩
  have HR : Hid (Recs E 0 ((logN data ws).drop 128) l a la t) := hrec
  have HT : Hid (t.length = (63 - a) * 128 ∧ a ≤ 63 ∧ mostS E t (63 - a) + 1 = S ∧ 63 - a < k ∧ needsN r.size = k ∧ 0 < k) := ⟨htl, ha, hS, hfit, hk, hk0⟩
  have hrI : (r.size : Int) ≤ 4096 := by omega
  have s1 : IntKind.i64.wrap ((63 : Int) - (a : Int)) = 63 - a := by rw [IntKind.wrap_i64]; omega
  have g1 : decide ((63 : Int) - (a : Int) < (k : Int)) = true := decide_eq_true (by omega)
  clear hd hl hE hE0 hr hrec hS hfit hE32 ha ht hla htl hk hk0 hlen
  go_enter Tryz.func100, Tryz.ntmps100
  go_wp2_with fail
  refine (load_main _ count data ws _ (HD.out.below (below_alloc w _)) HL.out.ok HL.out.big E HE.out.1).mono ?_
  rintro e w1 (⟨h0, _⟩ | ⟨_, rv, l', a', la', t', tq, tc, rfl, hrec, hown, h1, h2, hbin, hb1⟩)
  · exact absurd h0 HE.out.2.1
  obtain ⟨rfl, rfl, rfl, rfl⟩ := HR.out.only HE.out.2.2.1 (by omega) hrec
  obtain ⟨rq, rm, rfl, _, _, _⟩ := own_form hown
  have hb1' : Below w.heap.size w w1 := below_bt (below_alloc w _) hb1
  rw [HT.out.1] at h1 ⊢
  have HNS : Hid (∀ w', Below w1.heap.size w1 w' → Calls Tryz.prog 126 #[.agg #[.int .u32 E, .slice rq l.length rm, .int .i64 (a : Nat), .int .u32 (la : Nat), .slice tq ((63 - a) * 128) tc]] w' fun x w2 => x = .returned (.int .u64 S) ∧ Below w'.heap.size w' w2) := fun w' hw => by
    have := nextSalt_any E rq l.length rm a la tq (63 - a) tc t w' HT.out.1 (by omega) h1 h2 (hbin.below hw)
    rw [HT.out.2.2.1] at this
    exact this
  generalize (63 - a) * 128 = T at *
  have HB1 : Hid (Below w.heap.size w w1) := hb1'
  clear hrec hown h1 h2 hbin hb1 hb1'
  go_wp2_with fail
  refine (HNS.out _ (below_alloc _ _)).mono ?_
  rintro x w2 ⟨rfl, hb2⟩
  have hx : w2.heap[w1.heap.size]? = some (.cells #[.int .u32 E, .slice rq l.length rm, .int .i64 (a : Nat), .int .u32 (la : Nat), .slice tq T tc] 149 (0, 0)) := (hb2.block _ (by simp)).trans (heap_alloc_new w1 _)
  have HX : Hid _ := hx
  obtain ⟨⟨c0, _, c2, c3, _⟩, _⟩ := five hx
  have HB2 : Hid (Below w.heap.size w w2) := below_bt (below_bt HB1.out (below_alloc _ _)) hb2
  clear hb2 HNS hx
  have HND : Hid (∀ w', Calls Tryz.prog 127 #[.string r] w' fun e w'' => e = .returned (.int .i64 k) ∧ w'' = w') := fun w' => needs_any r k w' (by have := HE.out; omega) HT.out.2.2.2.2.1
  go_upto_region 7 with fail
  go_quiet ((go_at_call 127; exact Calls.quiet_of_same (HND.out _)))
  go_wp2
  go_ret2
  exact ⟨rfl, below_bt HB2.out (below_dr _ _)⟩
set_option maxRecDepth 8000 in
set_option maxHeartbeats 4000000 in
theorem Add_salt (v : Value) (r : ByteArray) (count : Int) (data : List Nat) (ws : Puts) (w : World) (hd : DiskIn w v count data ws) (hl : HasLog count data ws) (hlen : (logN data ws).length = 64 * 128) (E : Nat) (hE : epochN (logN data ws) = E) (hE0 : E ≠ 0) (hr : r.size ≤ 4096)
    (l : List (List Nat)) (a la : Nat) (t : List Nat) (S : Nat) (hrec : Recs E 0 ((logN data ws).drop 128) l a la t) (hS : mostS E t (63 - a) + 1 = S) (hS2 : ¬ S < 4294967296) (hfit : needsN r.size ≤ 63 - a) :
    Calls Tryz.prog 100 #[v, .string r] w fun e w' => e = .returned (.tuple #[.slice none 0 0, .int .i64 30]) ∧ Below w.heap.size w w' := by
  obtain ⟨p, c, q, m, rfl, _⟩ := hd.parts
  have HD : Hid _ := hd
  have HL : Hid (HasLog count data ws) := hl
  have hE32 : E < 4294967296 := hE ▸ epochN_lt _
  obtain ⟨ha, ht, hla⟩ := hrec.facts (n := 63) (by rw [List.length_drop, hlen]) (by omega)
  have htl : t.length = (63 - a) * 128 := by rw [ht]; exact drop_len (by rw [List.length_drop, hlen])
  obtain ⟨k, hk⟩ : ∃ k, needsN r.size = k := ⟨_, rfl⟩
  have hk0 := needsN_pos r.size
  rw [hk] at hk0 hfit
  have HE : Hid (epochN (logN data ws) = E ∧ E ≠ 0 ∧ E < 4294967296 ∧ la < 4294967296 ∧ r.size ≤ 4096) := ⟨hE, hE0, hE32, hla, hr⟩
  have HR : Hid (Recs E 0 ((logN data ws).drop 128) l a la t) := hrec
  have HT : Hid (t.length = (63 - a) * 128 ∧ a ≤ 63 ∧ mostS E t (63 - a) + 1 = S ∧ k ≤ 63 - a ∧ needsN r.size = k ∧ 0 < k) := ⟨htl, ha, hS, hfit, hk, hk0⟩
  have hrI : (r.size : Int) ≤ 4096 := by omega
  have s1 : IntKind.i64.wrap ((63 : Int) - (a : Int)) = 63 - a := by rw [IntKind.wrap_i64]; omega
  have g1 : decide ((63 : Int) - (a : Int) < (k : Int)) = false := decide_eq_false (by omega)
  have g2 : decide ((4294967295 : Int) < (S : Int)) = true := decide_eq_true (by omega)
  clear hd hl hE hE0 hr hrec hS hS2 hfit hE32 ha ht hla htl hk hk0 hlen
  go_enter Tryz.func100, Tryz.ntmps100
  go_wp2_with fail
  refine (load_main _ count data ws _ (HD.out.below (below_alloc w _)) HL.out.ok HL.out.big E HE.out.1).mono ?_
  rintro e w1 (⟨h0, _⟩ | ⟨_, rv, l', a', la', t', tq, tc, rfl, hrec, hown, h1, h2, hbin, hb1⟩)
  · exact absurd h0 HE.out.2.1
  obtain ⟨rfl, rfl, rfl, rfl⟩ := HR.out.only HE.out.2.2.1 (by omega) hrec
  obtain ⟨rq, rm, rfl, _, _, _⟩ := own_form hown
  have hb1' : Below w.heap.size w w1 := below_bt (below_alloc w _) hb1
  rw [HT.out.1] at h1 ⊢
  have HNS : Hid (∀ w', Below w1.heap.size w1 w' → Calls Tryz.prog 126 #[.agg #[.int .u32 E, .slice rq l.length rm, .int .i64 (a : Nat), .int .u32 (la : Nat), .slice tq ((63 - a) * 128) tc]] w' fun x w2 => x = .returned (.int .u64 S) ∧ Below w'.heap.size w' w2) := fun w' hw => by
    have := nextSalt_any E rq l.length rm a la tq (63 - a) tc t w' HT.out.1 (by omega) h1 h2 (hbin.below hw)
    rw [HT.out.2.2.1] at this
    exact this
  generalize (63 - a) * 128 = T at *
  have HB1 : Hid (Below w.heap.size w w1) := hb1'
  clear hrec hown h1 h2 hbin hb1 hb1'
  go_wp2_with fail
  refine (HNS.out _ (below_alloc _ _)).mono ?_
  rintro x w2 ⟨rfl, hb2⟩
  have hx : w2.heap[w1.heap.size]? = some (.cells #[.int .u32 E, .slice rq l.length rm, .int .i64 (a : Nat), .int .u32 (la : Nat), .slice tq T tc] 149 (0, 0)) := (hb2.block _ (by simp)).trans (heap_alloc_new w1 _)
  have HX : Hid _ := hx
  obtain ⟨⟨c0, _, c2, c3, _⟩, _⟩ := five hx
  have HB2 : Hid (Below w.heap.size w w2) := below_bt (below_bt HB1.out (below_alloc _ _)) hb2
  clear hb2 HNS hx
  have HND : Hid (∀ w', Calls Tryz.prog 127 #[.string r] w' fun e w'' => e = .returned (.int .i64 k) ∧ w'' = w') := fun w' => needs_any r k w' (by have := HE.out; omega) HT.out.2.2.2.2.1
  go_upto_region 7 with fail
  go_quiet ((go_at_call 127; exact Calls.quiet_of_same (HND.out _)))
  go_wp2
  go_ret2
  exact ⟨rfl, below_bt HB2.out (below_dr _ _)⟩
def StrsIn (w : World) (q : Option Addr) (l : List ByteArray) : Prop := 0 < l.length → ∃ b o, q = some ⟨b, o, none⟩ ∧ ∀ i, i < l.length → w.cell? ⟨b, o + i, none⟩ = some (.string (l.getD i ByteArray.empty))
theorem StrsIn.below {w w' : World} {q : Option Addr} {l : List ByteArray} (h : StrsIn w q l) (hb : Below w.heap.size w w') : StrsIn w' q l := fun h0 => by
  obtain ⟨b, o, hq, hc⟩ := h h0
  exact ⟨b, o, hq, fun i hi => (hb.cell (World.block_lt_of_cell? _ _ (hc i hi))).trans (hc i hi)⟩
end Go.Proofs.YtghcmllmbpoidaaGreatDoor.Lg
