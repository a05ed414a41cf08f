/-
  The reader: a character that stands for itself.
-/
import Derived.Test.YtcfalgomcdmdhaaDoorJLaid
import Derived.Test.YtcfalgomcdmdhaaDoorJUtf
namespace Go.Proofs.YtcfalgomcdmdhaaDoor
open Go.RowKit Go.WideShapes Go.Joins

theorem below_more {w0 w1 w2 : World} (h : Below w0.heap.size w0 w1) (k : Below w1.heap.size w1 w2) : Below w0.heap.size w0 w2 := h.trans (k.mono h.size)
/-- FullRuneInString's contract. -/
def FullAny : Prop := ∀ (s : ByteArray) (w : World), s.size ≤ 100000 → Lib.Utf8Tabs 0 1 w → Calls Tryd.prog 105 #[.string s] w fun e w' => e = .returned (.bool (fullN (numsOf s))) ∧ Below w.heap.size w w'
theorem nums_byte' (s : ByteArray) (k : Nat) (h : k < s.size) : (numsOf s).getD k 0 < 256 := by
  refine numsOf_lt s _ ?_
  rw [List.getD_eq_getElem?_getD, List.getElem?_eq_getElem (by rw [numsOf_len]; exact h)]
  exact List.getElem_mem _
def chrR : J.Rd (List Nat) := J.sw (fun c => if c < 128 then .take (J.Rd.pure [c]) else .go (J.char.seen.then fun p => J.Rd.pure p.2)) (.bad 160 [])
theorem charT_le (sz lo hi : Nat) (t : List Nat) : (charT sz lo hi t).1 ≤ t.length + 1 := by
  rcases t with _ | ⟨b1, _ | ⟨b2, _ | ⟨b3, t⟩⟩⟩ <;> simp only [charT, List.length_cons, List.length_nil] <;> (repeat' split) <;> (try simp only []) <;> omega
theorem charN_le {l : List Nat} (_ : (charN l).2 = true) : (charN l).1 ≤ l.length := by
  cases l with
  | nil => exact Nat.le_refl _
  | cons b0 t =>
    simp only [charN]
    split
    · exact Nat.zero_le _
    · exact charT_le _ _ _ _
theorem charT_four (sz lo hi : Nat) (t : List Nat) : (charT sz lo hi t).1 ≤ 4 := by
  rcases t with _ | ⟨b1, _ | ⟨b2, _ | ⟨b3, t⟩⟩⟩ <;> simp only [charT] <;> (repeat' split) <;> (try simp only []) <;> omega
theorem charN_four (l : List Nat) : (charN l).1 ≤ 4 := by
  cases l with
  | nil => exact Nat.zero_le _
  | cons b0 t =>
    simp only [charN]
    split
    · exact Nat.zero_le _
    · exact charT_four _ _ _ _
theorem chr_low {s : ByteArray} {i : Nat} (h : i < s.size) (hb : (numsOf s).getD i 0 < 128) : goR chrR (.live s i) = (.live s (i + 1), some [(numsOf s).getD i 0]) := by
  unfold chrR
  rw [goR_sw _ _ h]
  simp only [hb, if_true]
  exact goR_pure _ (by omega)
theorem chr_go {s : ByteArray} {i : Nat} (h : i < s.size) (hb : ¬ (numsOf s).getD i 0 < 128) : goR chrR (.live s i) = goR (J.char.seen.then fun p => J.Rd.pure p.2) (.live s i) := by
  unfold chrR
  rw [goR_sw _ _ h]
  simp only [hb, if_false]
theorem chr_yes {s : ByteArray} {i : Nat} (h : i < s.size) (hb : ¬ (numsOf s).getD i 0 < 128) (hv : (charN ((numsOf s).drop i)).2 = true) :
    goR chrR (.live s i) = (.live s (i + (charN ((numsOf s).drop i)).1), some (((numsOf s).drop i).take (charN ((numsOf s).drop i)).1)) := by
  have hle := charN_le hv
  have hl := rest_len s i
  rw [hl] at hle
  rw [chr_go h hb]
  generalize hn : (charN ((numsOf s).drop i)).1 = n at hle ⊢
  have e := char_is ((numsOf s).drop i)
  rw [hv, if_pos rfl, hn] at e
  simp only [goR, J.Rd.then, J.Rd.seen, e, J.Rd.pure, List.length_drop, numsOf_len]
  have e1 : s.size - (s.size - i - n) = i + n := by omega
  have e2 : s.size - i - (s.size - i - n) = n := by omega
  rw [e1, e2]
theorem chr_no {s : ByteArray} {i : Nat} (h : i < s.size) (hb : ¬ (numsOf s).getD i 0 < 128) (hv : (charN ((numsOf s).drop i)).2 = false) (hle : (charN ((numsOf s).drop i)).1 ≤ s.size - i) :
    goR chrR (.live s i) = (.dead (cutS s (i + (charN ((numsOf s).drop i)).1)) 160, none) := by
  rw [chr_go h hb]
  generalize hn : (charN ((numsOf s).drop i)).1 = n at hle ⊢
  have e := char_is ((numsOf s).drop i)
  rw [hv, if_neg (by decide), hn] at e
  simp only [goR, J.Rd.then, J.Rd.seen, e, List.length_drop, numsOf_len]
  have e1 : s.size - (s.size - i - n) = i + n := by omega
  rw [e1]
theorem get_num (s : ByteArray) (k : Nat) : (s.get! k).toNat = (numsOf s).getD k 0 := by
  by_cases h : k < s.size
  · have h2 : k < (numsOf s).length := by rw [numsOf_len]; exact h
    rw [Go.Proofs.Utf8W.get!_of_lt s k h, List.getD_eq_getElem?_getD, List.getElem?_eq_getElem h2]
    simp [numsOf, ByteArray.getElem_eq_getElem_data]
  · have h2 : ¬ k < (numsOf s).length := by rw [numsOf_len]; exact h
    rw [List.getD_eq_getElem?_getD, List.getElem?_eq_none (by omega)]
    cases s with
    | mk d =>
      have h3 : ¬ k < d.size := h
      show (d[k]!).toNat = 0
      rw [getElem!_neg d k h3]; rfl
theorem extract_drop (s : ByteArray) (i : Nat) : numsOf (s.extract i s.size) = (numsOf s).drop i := by
  unfold numsOf
  rw [← List.map_drop]
  congr 1
  simp only [ByteArray.data_extract, Array.toList_extract, List.extract_eq_take_drop]
  rw [List.take_of_length_le]
  simp
theorem extract_take (s : ByteArray) (n : Nat) : numsOf (s.extract 0 n) = (numsOf s).take n := by rw [extract_cut, cutS_nums]
theorem size_nums (s : ByteArray) : s.size = (numsOf s).length := (numsOf_len s).symm
theorem decode_nums (s : ByteArray) (h : 0 < s.size) : Lib.decodeGo s = Lib.decodeN s.size ((numsOf s).getD 0 0) ((numsOf s).getD 1 0) ((numsOf s).getD 2 0) ((numsOf s).getD 3 0) := by
  unfold Lib.decodeGo
  rw [if_neg (by omega), Lib.decode_at, get_num, get_num, get_num, get_num]
  rfl
theorem decode_low {n b0 b1 b2 b3 : Nat} (h : b0 < 128) : Lib.decodeN n b0 b1 b2 b3 = (b0, 1) := by unfold Lib.decodeN; rw [if_pos h]
/-- some places further -/
theorem RIn.steps {w : World} {b : Nat} {s : ByteArray} {i n : Nat} (h : RIn w b (.live s i)) (hi : i + n ≤ s.size) : RIn (w.setCell ⟨b, 1, none⟩ (.int .i64 ((i : Int) + (n : Int)))) b (.live s (i + n)) := by
  refine ⟨hi, h.sz, ?_⟩
  rw [block_setCell h.blk]
  simp [RS.i, RS.s, RS.e]
structure ChrP (b NB : Nat) (xs : List Nat) (σ : RS) (w : World) (e : Ending) (w' : World) : Prop where
  ex : e = .returned (.tuple #[]) ∧ ∃ ys : List Nat, ys.length ≤ 4 ∧ (∀ x, (goR chrR σ).2 = some x → ys = x) ∧ (∀ c ∈ ys, c < 256) ∧ Bld w' NB (xs ++ ys) ∧ RIn w' b (goR chrR σ).1 ∧ KB NB b w w'
/-- how far a broken character goes -/
inductive BadI (w : World) (N : Nat) (t : Value) (wr : World) : Prop where
  | intro (m : Nat) (hm : m ≤ N) (ht : t = .int .i64 (m : Int)) (hb : Below w.heap.size w wr)
set_option maxHeartbeats 2000000 in
set_option maxRecDepth 8000 in
theorem char_any (HF : FullAny) (b NB : Nat) (s : ByteArray) (i : Nat) (hi : i < s.size) (xs : List Nat) (w : World) (h : RIn w b (.live s i)) (hB : Bld w NB xs) (hb : b < NB) (h8 : 8 ≤ b) (hL : Laid w) (hl : xs.length ≤ 100000) :
    Calls Tryd.prog 84 #[rp b, rp NB] w fun e w' => ChrP b NB xs (.live s i) w e w' := by
  have hsz : s.size ≤ 16384 := h.sz
  have hN := hB.lt
  have hlt := h.lt
  have c0 := h.c0
  have c1 := h.c1
  have f1 := h.fz 1
  simp only [RS.s, RS.i] at c0 c1
  obtain ⟨rs, hrs⟩ : ∃ rs, s.extract i s.size = rs := ⟨_, rfl⟩
  have hnum : numsOf rs = (numsOf s).drop i := by rw [← hrs]; exact extract_drop s i
  have hrl : rs.size = s.size - i := by rw [size_nums, hnum, rest_len]
  have hcons := rest_cons hi
  have hb0 := nums_byte' s i hi
  have D := fun w' (hw : Below w.heap.size w w') => Any.utf8_DecodeRuneInString lays197 rs w' (hL.below hw (by omega)).u8
  rw [decode_nums rs (by omega), hnum] at D
  have e0 : ((numsOf s).drop i).getD 0 0 = (numsOf s).getD i 0 := by rw [hcons]; rfl
  rw [e0] at D
  obtain ⟨b0, hbb⟩ : ∃ x, (numsOf s).getD i 0 = x := ⟨_, rfl⟩
  obtain ⟨K, hK⟩ : ∃ K, (Lib.decodeN rs.size b0 (((numsOf s).drop i).getD 1 0) (((numsOf s).drop i).getD 2 0) (((numsOf s).drop i).getD 3 0)) = K := ⟨_, rfl⟩
  rw [hbb, hK] at D
  have HH : Hid (RIn w b (.live s i) ∧ Bld w NB xs ∧ Laid w ∧ numsOf rs = (numsOf s).drop i ∧ rs.size = s.size - i ∧ i < s.size ∧ s.size ≤ 16384 ∧ xs.length ≤ 100000 ∧ NB < w.heap.size ∧ b < NB ∧ 8 ≤ b) := ⟨h, hB, hL, hnum, hrl, hi, hsz, hl, hN, hb, h8⟩
  have HM : Hid (∀ w', Below w.heap.size w w' → RIn w' b (.live s i) ∧ Bld w' NB xs ∧ KB NB b w w' ∧ w'.cell? ⟨b, 1, none⟩ = some (.int .i64 (i : Int)) ∧ w'.frozen? ⟨b, 1, none⟩ = false) := fun w' hw =>
    have h' := h.below hw
    ⟨h', hB.grown hb (grown_below hw _), KB.of_below (hw.mono (by omega)), h'.c1, h'.fz 1⟩
  have hiI : (i : Int) ≤ (s.size : Int) := by omega
  have hx : ∀ w', (Instr.slice 9 (.string s) (some (.int .i64 (i : Int))) none none).run Tryd.prog w' = .ok (.string rs) w' := fun w' => by
    rw [run_slice_string_l w' 9 s Tryd.underlying9 .i64 (i : Int) (by omega) hiI, Int.toNat_natCast, hrs]
  by_cases hlow : b0 < 128
  · have hKK : K = (b0, 1) := by rw [← hK]; exact decode_low hlow
    rw [hKK] at D
    simp only [show (((1 : Nat) : Int)) = 1 from rfl] at D
    have HG : Hid (goR chrR (.live s i) = (.live s (i + 1), some [b0])) := by
      have := chr_low hi (by rw [hbb]; exact hlow)
      rw [hbb] at this
      exact this
    have HT : Hid (numsOf (rs.extract 0 1) = [b0]) := by
      show _ = _
      rw [extract_take, hnum, hcons, hbb]; rfl
    have hne : ((b0 : Int) == 65533) = false := by simpa using fun e : (b0 : Int) = 65533 => by omega
    have hr1 : (1 : Int) ≤ (rs.size : Int) := by omega
    clear hK hKK hcons e0 hnum
    clear h hB hL hlt f1
    unfold rp
    go_enter Tryd.func84, Tryd.ntmps84
    go_wp2
    go_quiet (fail)
    have B1 : Below w.heap.size w (w.drewN nq) := below_dN (Below.refl _ _) _
    generalize w.drewN nq = w1 at *
    have D1 := D w1 B1
    clear D
    go_wp2_with fail
    refine D1.mono ?_
    rintro e w2 ⟨rfl, hb2⟩
    simp only []
    have B2 : Below w.heap.size w w2 := below_more B1 hb2
    have HNN : Hid (i + 1 ≤ s.size) := hi
    have hm := HM.out w2 B2
    have W := writeString_any w2 NB (rs.extract 0 1) xs hm.2.1 (by have := HH.out; omega) (by rw [size_nums, HT.out]; simp)
    unfold rp at W
    clear hm
    go_wp2_with fail
    refine W.mono ?_
    rintro e w3 ⟨rfl, hB3, hb3⟩
    simp only []
    have h3 := (HM.out w2 B2).1.keep hb3 HH.out.2.2.2.2.2.2.2.2.2.1
    have d1 := h3.c1
    have g1 := h3.fz 1
    simp only [RS.i] at d1
    have H3 : Hid (RIn w3 b (.live s i) ∧ Bld w3 NB (xs ++ numsOf (rs.extract 0 1)) ∧ KB NB b w w3) := ⟨h3, hB3, (HM.out w2 B2).2.2.1.trans (KB.of_below hb3)⟩
    obtain ⟨I, hI⟩ : ∃ I : Int, (i : Int) = I := ⟨_, rfl⟩
    have I0 : 0 ≤ I := by omega
    have I1 : I < 1000000 := by omega
    rw [hI] at d1
    have HI : Hid ((i : Int) = I) := hI
    clear hI h3 hB3 hb3 W c1
    go_wp2
    go_end0
    have H := H3.out
    have S := H.1.steps (n := 1) (by have := HH.out; have := HNN.out; omega)
    rw [HI.out, show (((1 : Nat) : Int)) = 1 from rfl] at S
    refine ⟨rfl, [b0], ?_, fun x hx => ?_, ?_, ?_, ?_, H.2.2.trans (KB.of_grown (grown_set _ _ _ _) (by have := H.2.1.lt; omega))⟩
    · simp
    · rw [HG.out] at hx; cases hx; rfl
    · have := HH.out; simp only [List.mem_singleton, forall_eq]; omega
    · have hb4 := H.2.1
      rw [HT.out] at hb4
      exact hb4.grown HH.out.2.2.2.2.2.2.2.2.2.1 (grown_set _ _ _ _)
    · rw [HG.out]; exact S
  have hb128 : 128 ≤ b0 := by omega
  have h256 : ∀ k, ((numsOf s).drop i).getD k 0 < 256 := by
    intro k
    by_cases hk : k < ((numsOf s).drop i).length
    · rw [List.getD_eq_getElem?_getD, List.getElem?_eq_getElem hk]
      exact numsOf_lt s _ (List.mem_of_mem_drop (List.getElem_mem _))
    · rw [List.getD_eq_getElem?_getD, List.getElem?_eq_none (by omega)]
      decide
  have DC := decode_char rs.size b0 (((numsOf s).drop i).getD 1 0) (((numsOf s).drop i).getD 2 0) (((numsOf s).drop i).getD 3 0) ((numsOf s).drop (i + 1)) hb128 (by rw [← hbb]; exact hb0) (h256 1) (h256 2) (h256 3)
    (by rw [hrl, List.length_drop, numsOf_len]; omega) (by rw [hcons]; rfl) (by rw [hcons]; rfl) (by rw [hcons]; rfl)
  rw [hK, show b0 :: (numsOf s).drop (i + 1) = (numsOf s).drop i by rw [hcons, hbb]] at DC
  have hnb : ¬ (numsOf s).getD i 0 < 128 := by rw [hbb]; exact hlow
  clear h256
  cases hv : (charN ((numsOf s).drop i)).2 with
  | true =>
    rw [hv, if_pos rfl] at DC
    have hy := chr_yes hi hnb hv
    have hnl := charN_le hv
    have hn4 := charN_four ((numsOf s).drop i)
    rw [rest_len] at hnl
    generalize (charN ((numsOf s).drop i)).1 = n at DC hy hnl hn4
    obtain ⟨r0, k0⟩ := K
    simp only at DC D
    obtain ⟨dc1, rfl⟩ := DC
    have HG : Hid (goR chrR (.live s i) = (.live s (i + k0), some (((numsOf s).drop i).take k0))) := hy
    have HT : Hid (numsOf (rs.extract 0 k0) = ((numsOf s).drop i).take k0) := by
      show _ = _
      rw [extract_take, hnum]
    have HN4 : Hid (k0 ≤ 4) := hn4
    have HNN : Hid (i + k0 ≤ s.size) := by show _ ≤ _; omega
    have hr1 : (k0 : Int) ≤ (rs.size : Int) := by omega
    have hk2 : (1 : Int) < (k0 : Int) := by omega
    obtain ⟨N, hNI⟩ : ∃ N : Int, (k0 : Int) = N := ⟨_, rfl⟩
    have hxx : ∀ w', (Instr.slice 9 (.string rs) none (some (.int .i64 N)) none).run Tryd.prog w' = .ok (.string (rs.extract 0 k0)) w' := fun w' => by
      rw [← hNI, run_slice_string_h w' 9 rs Tryd.underlying9 .i64 (k0 : Int) (by omega) hr1, Int.toNat_natCast]
    have hN0 : 0 ≤ N := by omega
    have hN4 : N ≤ 4 := by omega
    have hN1 : 1 < N := by omega
    rw [hNI] at D
    have HNI : Hid ((k0 : Int) = N) := hNI
    clear hK hcons e0 hnum hy hnl hn4 dc1 hr1 hk2 hv hnb hb128 hlow hNI
    by_cases hR : r0 = 65533
    · subst hR
      simp only [show (((65533 : Nat) : Int)) = 65533 from rfl] at D
      clear h hB hL hlt f1
      unfold rp
      go_enter Tryd.func84, Tryd.ntmps84
      go_wp2
      go_quiet (fail)
      have B1 : Below w.heap.size w (w.drewN nq) := below_dN (Below.refl _ _) _
      generalize w.drewN nq = w1 at *
      have D1 := D w1 B1
      clear D
      go_wp2_with fail
      refine D1.mono ?_
      rintro e w2 ⟨rfl, hb2⟩
      simp only []
      have B2 : Below w.heap.size w w2 := below_more B1 hb2
      have hm := HM.out w2 B2
      have W := writeString_any w2 NB (rs.extract 0 k0) xs hm.2.1 (by have := HH.out; omega) (by rw [size_nums, HT.out, List.length_take]; have := HN4.out; omega)
      unfold rp at W
      clear hm
      go_wp2_with fail
      refine W.mono ?_
      rintro e w3 ⟨rfl, hB3, hb3⟩
      simp only []
      have h3 := (HM.out w2 B2).1.keep hb3 HH.out.2.2.2.2.2.2.2.2.2.1
      have d1 := h3.c1
      have g1 := h3.fz 1
      simp only [RS.i] at d1
      have H3 : Hid (RIn w3 b (.live s i) ∧ Bld w3 NB (xs ++ numsOf (rs.extract 0 k0)) ∧ KB NB b w w3) := ⟨h3, hB3, (HM.out w2 B2).2.2.1.trans (KB.of_below hb3)⟩
      obtain ⟨I, hI⟩ : ∃ I : Int, (i : Int) = I := ⟨_, rfl⟩
      have I0 : 0 ≤ I := by omega
      have I1 : I < 1000000 := by omega
      rw [hI] at d1
      have HI : Hid ((i : Int) = I ∧ (k0 : Int) = N) := ⟨hI, HNI.out⟩
      clear hI h3 hB3 hb3 W c1
      go_wp2
      go_end0
      have H := H3.out
      have S := H.1.steps (n := k0) (by have := HH.out; have := HNN.out; omega)
      rw [HI.out.1, HI.out.2] at S
      refine ⟨rfl, (((numsOf s).drop i).take k0), ?_, fun x hx => ?_, ?_, ?_, ?_, H.2.2.trans (KB.of_grown (grown_set _ _ _ _) (by have := H.2.1.lt; omega))⟩
      · rw [List.length_take]; have := HN4.out; omega
      · rw [HG.out] at hx; cases hx; rfl
      · intro c hc
        exact numsOf_lt s c (List.mem_of_mem_drop (List.mem_of_mem_take hc))
      · have hb4 := H.2.1
        rw [HT.out] at hb4
        exact hb4.grown HH.out.2.2.2.2.2.2.2.2.2.1 (grown_set _ _ _ _)
      · rw [HG.out]; exact S
    · obtain ⟨Q, hQ⟩ : ∃ Q : Int, (r0 : Int) = Q := ⟨_, rfl⟩
      have hne : ¬ Q = 65533 := by omega
      have hne2 : (Q == 65533) = false := by simpa using hne
      rw [hQ] at D
      clear hR hQ
      clear h hB hL hlt f1
      unfold rp
      go_enter Tryd.func84, Tryd.ntmps84
      go_wp2
      go_quiet (fail)
      have B1 : Below w.heap.size w (w.drewN nq) := below_dN (Below.refl _ _) _
      generalize w.drewN nq = w1 at *
      have D1 := D w1 B1
      clear D
      go_wp2_with fail
      refine D1.mono ?_
      rintro e w2 ⟨rfl, hb2⟩
      simp only []
      have B2 : Below w.heap.size w w2 := below_more B1 hb2
      have hm := HM.out w2 B2
      have W := writeString_any w2 NB (rs.extract 0 k0) xs hm.2.1 (by have := HH.out; omega) (by rw [size_nums, HT.out, List.length_take]; have := HN4.out; omega)
      unfold rp at W
      clear hm
      go_wp2_with fail
      refine W.mono ?_
      rintro e w3 ⟨rfl, hB3, hb3⟩
      simp only []
      have h3 := (HM.out w2 B2).1.keep hb3 HH.out.2.2.2.2.2.2.2.2.2.1
      have d1 := h3.c1
      have g1 := h3.fz 1
      simp only [RS.i] at d1
      have H3 : Hid (RIn w3 b (.live s i) ∧ Bld w3 NB (xs ++ numsOf (rs.extract 0 k0)) ∧ KB NB b w w3) := ⟨h3, hB3, (HM.out w2 B2).2.2.1.trans (KB.of_below hb3)⟩
      obtain ⟨I, hI⟩ : ∃ I : Int, (i : Int) = I := ⟨_, rfl⟩
      have I0 : 0 ≤ I := by omega
      have I1 : I < 1000000 := by omega
      rw [hI] at d1
      have HI : Hid ((i : Int) = I ∧ (k0 : Int) = N) := ⟨hI, HNI.out⟩
      clear hI h3 hB3 hb3 W c1
      go_wp2
      go_end0
      have H := H3.out
      have S := H.1.steps (n := k0) (by have := HH.out; have := HNN.out; omega)
      rw [HI.out.1, HI.out.2] at S
      refine ⟨rfl, (((numsOf s).drop i).take k0), ?_, fun x hx => ?_, ?_, ?_, ?_, H.2.2.trans (KB.of_grown (grown_set _ _ _ _) (by have := H.2.1.lt; omega))⟩
      · rw [List.length_take]; have := HN4.out; omega
      · rw [HG.out] at hx; cases hx; rfl
      · intro c hc
        exact numsOf_lt s c (List.mem_of_mem_drop (List.mem_of_mem_take hc))
      · have hb4 := H.2.1
        rw [HT.out] at hb4
        exact hb4.grown HH.out.2.2.2.2.2.2.2.2.2.1 (grown_set _ _ _ _)
      · rw [HG.out]; exact S
  | false =>
    rw [hv, if_neg (by decide)] at DC
    have FP := full_place b0 ((numsOf s).drop (i + 1)) hb128 (by rw [← hbb]; exact hb0) (by rw [show b0 :: (numsOf s).drop (i + 1) = (numsOf s).drop i by rw [hcons, hbb]]; exact hv)
    rw [show b0 :: (numsOf s).drop (i + 1) = (numsOf s).drop i by rw [hcons, hbb]] at FP
    have hdl : ((numsOf s).drop (i + 1)).length + 1 = rs.size := by rw [hrl, List.length_drop, numsOf_len]; omega
    rw [hdl] at FP
    have hno := chr_no hi hnb hv (by rw [← hrl]; exact FP.1)
    generalize hnn : (charN ((numsOf s).drop i)).1 = n at FP hno
    have hft : ∀ m, fullN (numsOf (rs.extract 0 (m + 1))) = fullN (((numsOf s).drop i).take (m + 1)) := fun m => by rw [extract_take, hnum]
    rw [DC] at D
    simp only [show (((65533 : Nat) : Int)) = 65533 from rfl, show (((1 : Nat) : Int)) = 1 from rfl] at D
    have HG : Hid (goR chrR (.live s i) = (.dead (cutS s (i + n)) 160, none)) := hno
    have HP : Hid (n ≤ rs.size ∧ (∀ m, m < n → fullN (numsOf (rs.extract 0 (m + 1))) = false) ∧ (n < rs.size → fullN (numsOf (rs.extract 0 (n + 1))) = true)) :=
      ⟨FP.1, fun m hm => by rw [hft]; exact FP.2.1 m hm, fun hlt' => by rw [hft]; exact FP.2.2 hlt'⟩
    have hr20 : rs.size ≤ 16384 := by omega
    have HX : Hid (∀ m, m + 1 ≤ rs.size → ∀ w', (Instr.slice 9 (.string rs) none (some (.int .i64 ((m : Int) + 1))) none).run Tryd.prog w' = .ok (.string (rs.extract 0 (m + 1))) w') := fun m hm w' => by
      rw [run_slice_string_h w' 9 rs Tryd.underlying9 .i64 ((m : Int) + 1) (by omega) (by omega), show ((m : Int) + 1).toNat = m + 1 by omega]
    clear hK hcons e0 hnum FP hno hft DC hnn hdl hv hnb hb128 hlow
    clear h hB hL hlt f1
    unfold rp
    go_enter Tryd.func84, Tryd.ntmps84
    go_wp2
    go_quiet (fail)
    have B1 : Below w.heap.size w (w.drewN nq) := below_dN (Below.refl _ _) _
    generalize w.drewN nq = w1 at *
    have D1 := D w1 B1
    clear D
    go_wp2_with fail
    refine D1.mono ?_
    rintro e w2 ⟨rfl, hb2⟩
    simp only []
    have B2 : Below w.heap.size w w2 := below_more B1 hb2
    clear D1 hb2 B1
    go_wp2_with fail
    go_loopw [6] (fun t wr => BadI w n t wr) (fun t _ => n - (intOf t).toNat)
    case atStart => exact ⟨0, Nat.zero_le _, rfl, B2⟩
    case round =>
      clear B2 c1 c0 hx
      obtain ⟨m, hm, rfl, hbw⟩ := hrel
      have HW : Hid (Below w.heap.size w wr) := hbw
      have hm0 : (0 : Int) ≤ (m : Int) := by omega
      by_cases hlt : m < n
      · have hmI : (m : Int) < (rs.size : Int) := by have := HP.out.1; omega
        have F := HF (rs.extract 0 (m + 1)) wr (by rw [size_nums, extract_take, List.length_take, numsOf_len]; omega) (HH.out.2.2.1.below hbw (by have := HH.out; omega)).u8
        rw [HP.out.2.1 m hlt] at F
        have X := HX.out m (by have := HP.out.1; omega)
        have HL : Hid (m < n) := hlt
        clear hbw hm hlt
        go_wp2_with fail
        refine F.mono ?_
        rintro e w3 ⟨rfl, hb3⟩
        simp only []
        go_wp2
        go_roundw
        case rel => exact ⟨m + 1, HL.out, by rw [Int.natCast_add]; rfl, below_more HW.out hb3⟩
        case measure => have := HL.out; simp [intOf]; omega
      · obtain rfl : m = n := by omega
        have fin : ∀ w3, Below w.heap.size w w3 → RIn (w3.setCell ⟨b, 1, none⟩ (.int .i64 ((i : Int) + (m : Int)))) b (.live s (i + m)) ∧ Bld (w3.setCell ⟨b, 1, none⟩ (.int .i64 ((i : Int) + (m : Int)))) NB xs ∧ KB NB b w (w3.setCell ⟨b, 1, none⟩ (.int .i64 ((i : Int) + (m : Int)))) ∧ w3.cell? ⟨b, 1, none⟩ = some (.int .i64 (i : Int)) ∧ w3.frozen? ⟨b, 1, none⟩ = false := by
          intro w3 h3
          have q := HM.out w3 h3
          have hh := HH.out
          exact ⟨q.1.steps (by have := HP.out.1; omega), q.2.1.grown hh.2.2.2.2.2.2.2.2.2.1 (grown_set _ _ _ _), q.2.2.1.trans (KB.of_grown (grown_set _ _ _ _) (by have := h3.size; omega)), q.2.2.2.1, q.2.2.2.2⟩
        obtain ⟨I, hI⟩ : ∃ I : Int, (i : Int) = I := ⟨_, rfl⟩
        obtain ⟨N, hN'⟩ : ∃ N : Int, (m : Int) = N := ⟨_, rfl⟩
        have I0 : 0 ≤ I := by omega
        have I1 : I < 1000000 := by omega
        have N0 : 0 ≤ N := by omega
        have N1 : N < 1000000 := by have := HP.out.1; omega
        have HI : Hid ((i : Int) = I ∧ (m : Int) = N) := ⟨hI, hN'⟩
        rw [hI, hN'] at fin
        rw [hN'] at hm0
        have FIN : Hid _ := fin
        by_cases hlt2 : m < rs.size
        · have F := HF (rs.extract 0 (m + 1)) wr (by rw [size_nums, extract_take, List.length_take, numsOf_len]; omega) (HH.out.2.2.1.below hbw (by have := HH.out; omega)).u8
          rw [HP.out.2.2 hlt2] at F
          have X := HX.out m (by omega)
          have hmI : N < (rs.size : Int) := by omega
          rw [hN'] at X
          rw [hN']
          clear hbw hm hlt hlt2 fin hI hN'
          go_wp2_with fail
          refine F.mono ?_
          rintro e w3 ⟨rfl, hb3⟩
          simp only []
          have B3 := below_more HW.out hb3
          obtain ⟨q1, q2, q3, d1, g1⟩ := FIN.out w3 B3
          have R := refuse_any b (.live s (i + m)) 160 ⟨by decide, by decide⟩ _ q1
          unfold rp at R
          have HQ : Hid (Bld (w3.setCell ⟨b, 1, none⟩ (.int .i64 (I + N))) NB xs ∧ KB NB b w (w3.setCell ⟨b, 1, none⟩ (.int .i64 (I + N)))) := ⟨q2, q3⟩
          clear q1 q2 q3 F hb3 B3
          go_wp2_with fail
          refine R.mono ?_
          rintro e w4 ⟨rfl, h4, g4⟩
          simp only []
          go_wp2
          go_end0
          refine ⟨rfl, [], by simp, fun x hx => ?_, by simp, by rw [List.append_nil]; exact HQ.out.1.grown HH.out.2.2.2.2.2.2.2.2.2.1 g4, ?_, HQ.out.2.trans (KB.of_grown g4 (by have := HQ.out.1.lt; omega))⟩
          · rw [HG.out] at hx; cases hx
          · rw [HG.out]; exact h4
        · have hmI : ¬ N < (rs.size : Int) := by omega
          have hmI2 : (rs.size : Int) ≤ N := by omega
          rw [hN']
          clear hbw hm hlt hlt2 fin hI hN'
          obtain ⟨q1, q2, q3, d1, g1⟩ := FIN.out wr HW.out
          have R := refuse_any b (.live s (i + m)) 160 ⟨by decide, by decide⟩ _ q1
          unfold rp at R
          have HQ : Hid (Bld (wr.setCell ⟨b, 1, none⟩ (.int .i64 (I + N))) NB xs ∧ KB NB b w (wr.setCell ⟨b, 1, none⟩ (.int .i64 (I + N)))) := ⟨q2, q3⟩
          clear q1 q2 q3
          go_wp2_with fail
          refine R.mono ?_
          rintro e w4 ⟨rfl, h4, g4⟩
          simp only []
          go_wp2
          go_end0
          refine ⟨rfl, [], by simp, fun x hx => ?_, by simp, by rw [List.append_nil]; exact HQ.out.1.grown HH.out.2.2.2.2.2.2.2.2.2.1 g4, ?_, HQ.out.2.trans (KB.of_grown g4 (by have := HQ.out.1.lt; omega))⟩
          · rw [HG.out] at hx; cases hx
          · rw [HG.out]; exact h4
end Go.Proofs.YtcfalgomcdmdhaaDoor
