/-
  The reader: escapes. A builder under way beside the reader.
-/
import Derived.Test.YtcfalgomcdmdhaaDoorJHexB
import Derived.Test.YtcfalgomcdmdhaaDoorJRead
import Derived.Test.YtcfalgomcdmdhaaDoorXShelfB
namespace Go.Proofs.YtcfalgomcdmdhaaDoor
open Go.RowKit Go.WideShapes Go.Joins

/-- A builder holds these bytes. -/
def Bld (w : World) (NB : Nat) (xs : List Nat) : Prop := Lib.IsBuilderF 64 5 NB NB (Bs xs) w
/-- Below a block all is as it was, but for one. -/
structure KB (NB b : Nat) (w w' : World) : Prop where
  os : w'.os = w.os
  tape : w'.tape = w.tape
  output : w'.output = w.output
  size : w.heap.size ≤ w'.heap.size
  block : ∀ k, k < NB → k ≠ b → w'.heap[k]? = w.heap[k]?
theorem KB.refl (NB b : Nat) (w : World) : KB NB b w w := ⟨rfl, rfl, rfl, Nat.le_refl _, fun _ _ _ => rfl⟩
theorem KB.trans {NB b : Nat} {w1 w2 w3 : World} (h : KB NB b w1 w2) (k : KB NB b w2 w3) : KB NB b w1 w3 :=
  ⟨k.os.trans h.os, k.tape.trans h.tape, k.output.trans h.output, Nat.le_trans h.size k.size, fun i hi hn => (k.block i hi hn).trans (h.block i hi hn)⟩
theorem KB.of_grown {NB b : Nat} {w w' : World} (h : w.grownBy w' (some b)) (hN : NB ≤ w.heap.size) : KB NB b w w' :=
  ⟨h.os, h.tape, h.output, h.size, fun k hk hn => h.block k (Nat.lt_of_lt_of_le hk hN) (fun e => hn (Option.some.inj e))⟩
theorem KB.of_below {NB b : Nat} {w w' : World} (h : Below NB w w') : KB NB b w w' := ⟨h.os, h.tape, h.output, h.size, fun k hk _ => h.block k hk⟩
theorem KB.grown {b : Nat} {w w' : World} {NB : Nat} (h : KB NB b w w') (hN : NB = w.heap.size) : w.grownBy w' (some b) :=
  ⟨h.os, h.tape, h.output, h.size, fun k hk hn => h.block k (by omega) (fun e => hn (by rw [e]))⟩
theorem bldAt_grown {w w' : World} {NB b : Nat} {p : Value} {bs : List Value} (h : Lib.BuilderAtF 64 5 NB NB p bs w) (hb : b < NB) (hg : w.grownBy w' (some b)) : Lib.BuilderAtF 64 5 NB NB p bs w' := by
  have hlt := h.lt
  obtain ⟨hB, v, hbk, hown, hne⟩ := h
  refine ⟨hB, v, (hg.block NB hlt (fun e => by cases e; omega)).trans hbk, hown.kept (row := some b) hg ?_, hne⟩
  refine Or.inr fun e => ?_
  rcases hown.2 with ⟨rfl, _⟩ | ⟨g, cap, cur, fz, rfl, hbg, _⟩
  · cases e
  · simp only [Value.ownBlock, Option.some.injEq] at e
    omega
theorem Bld.grown {w w' : World} {NB b : Nat} {xs : List Nat} (h : Bld w NB xs) (hb : b < NB) (hg : w.grownBy w' (some b)) : Bld w' NB xs :=
  h.elim (fun x => .inl (bldAt_grown x hb hg)) (fun x => .inr (bldAt_grown x hb hg))
theorem Bld.lt {w : World} {NB : Nat} {xs : List Nat} (h : Bld w NB xs) : NB < w.heap.size := h.elim (fun x => x.lt) (fun x => x.lt)
theorem bs_one (c : Nat) : Bs [c] = [.int .u8 (c : Int)] := rfl
/-- one byte is written -/
theorem writeByte_any (w : World) (NB c : Nat) (xs : List Nat) (h : Bld w NB xs) (hl : xs.length ≤ 200000) :
    Calls Tryd.prog 67 #[rp NB, .int .u8 (c : Int)] w fun e w' => e = .returned .nilIface ∧ Bld w' NB (xs ++ [c]) ∧ Below NB w w' := by
  refine (Any.Builder_WriteByte_k lays167 extra167 NB NB (Bs xs) (c : Int) w h (by rw [Bs_len]; omega) (by have := h.lt; omega)).mono ?_
  rintro e w' ⟨rfl, hA, hb, _⟩
  refine ⟨rfl, ?_, hb⟩
  unfold Bld
  rw [Bs_app, bs_one]
  exact .inr hA
theorem strCells_Bs (s : ByteArray) : Lib.strCells s = Bs (numsOf s) := by
  simp [Lib.strCells, Bs, numsOf, List.map_map, Function.comp_def]
theorem writeString_any (w : World) (NB : Nat) (s : ByteArray) (xs : List Nat) (h : Bld w NB xs) (hl : xs.length ≤ 200000) (hs : s.size ≤ 20000) :
    Calls Tryd.prog 63 #[rp NB, .string s] w fun e w' => e = .returned (.tuple #[.int .i64 s.size, .nilIface]) ∧ Bld w' NB (xs ++ numsOf s) ∧ Below NB w w' := by
  refine (Any.Builder_WriteString_k lays166 extra166 NB NB (Bs xs) s w h (by rw [Bs_len]; omega) (by have := h.lt; omega)).mono ?_
  rintro e w' ⟨rfl, hA, hb, _⟩
  refine ⟨rfl, ?_, hb⟩
  unfold Bld
  rw [Bs_app, ← strCells_Bs]
  exact .inr hA
theorem rune_cells (V : Nat) (hV : V < 2000000) : ∃ ys : List Nat, Lib.runeCells (V : Int) = Bs ys ∧ ys.length ≤ 4 ∧ (J.Chr V → ys = J.utf8 V) ∧ ∀ c ∈ ys, c < 256 := by
  by_cases h1 : V < 128
  · refine ⟨[V], ?_, by simp, fun _ => ?_, by simp; omega⟩
    · unfold Lib.runeCells; rw [Lib.encodeRuneZ_one (by omega) (by omega)]; rfl
    · unfold J.utf8; rw [if_pos h1]
  by_cases h2 : V < 2048
  · refine ⟨[192 + V / 64, 128 + V % 64], ?_, by simp, fun _ => ?_, by simp; omega⟩
    · unfold Lib.runeCells; rw [Lib.encodeRuneZ_two (by omega) (by omega)]
      simp [Bs]
    · unfold J.utf8; rw [if_neg h1, if_pos h2]
  by_cases h3 : V < 55296 ∨ (57343 < V ∧ V ≤ 65535)
  · refine ⟨[224 + V / 4096, 128 + V / 64 % 64, 128 + V % 64], ?_, by simp, fun _ => ?_, by simp; omega⟩
    · unfold Lib.runeCells; rw [Lib.encodeRuneZ_three (by omega)]
      simp [Bs]
    · unfold J.utf8; rw [if_neg h1, if_neg h2, if_pos (by omega)]
  by_cases h4 : 65535 < V ∧ V ≤ 1114111
  · refine ⟨[240 + V / 262144, 128 + V / 4096 % 64, 128 + V / 64 % 64, 128 + V % 64], ?_, by simp, fun _ => ?_, by simp; omega⟩
    · unfold Lib.runeCells; rw [Lib.encodeRuneZ_four (by omega) (by omega)]
      simp [Bs]
    · unfold J.utf8; rw [if_neg h1, if_neg h2, if_neg (by omega)]
  · refine ⟨[239, 191, 189], ?_, by simp, fun hc => ?_, by simp⟩
    · unfold Lib.runeCells; rw [Lib.encodeRuneZ_bad (by omega)]; rfl
    · unfold J.Chr at hc; omega
theorem writeRune_any (w : World) (NB V : Nat) (hV : V < 2000000) (xs : List Nat) (h : Bld w NB xs) (hl : xs.length ≤ 200000) :
    Calls Tryd.prog 102 #[rp NB, .int .i32 (V : Int)] w fun e w' => ∃ ys r, e = .returned r ∧ ys.length ≤ 4 ∧ (J.Chr V → ys = J.utf8 V) ∧ (∀ c ∈ ys, c < 256) ∧ Bld w' NB (xs ++ ys) ∧ Below NB w w' := by
  obtain ⟨ys, h1, h2, h3, h4⟩ := rune_cells V hV
  refine (Any.Builder_WriteRune_k lays168 extra168 NB NB (Bs xs) (V : Int) (by omega) (by omega) w h (by rw [Bs_len]; omega) (by have := h.lt; omega)).mono ?_
  rintro e w' ⟨rfl, hA, hb, _⟩
  refine ⟨ys, _, rfl, h2, h3, h4, ?_, hb⟩
  unfold Bld
  rw [Bs_app, ← h1]
  exact .inr hA
theorem escU_chr {σ : RS} {v : Nat} (h : (goR escU σ).2 = some v) : J.Chr v := by
  cases σ with
  | dead s e => cases h
  | live s i =>
    unfold goR at h
    simp only at h
    cases hv : escU ((numsOf s).drop i) with
    | ok x r =>
      rw [hv] at h
      cases h
      obtain ⟨n, m, h1, h2⟩ := J.then_ok hv
      exact (J.pairOr_ok (J.unit_ok h1).2 h2).2
    | bad e r => rw [hv] at h; cases h
    | out => rw [hv] at h; cases h
/-- what escape leaves behind -/
structure EscP (b NB : Nat) (xs : List Nat) (σ : RS) (w : World) (e : Ending) (w' : World) : Prop where
  ex : e = .returned (.tuple #[]) ∧ ∃ ys : List Nat, ys.length ≤ 4 ∧ (∀ x, (goR J.escaped σ).2 = some x → ys = J.utf8 x) ∧ (∀ c ∈ ys, c < 256) ∧ Bld w' NB (xs ++ ys) ∧ RIn w' b (goR J.escaped σ).1 ∧ KB NB b w w'
def signS : ByteArray := ⟨#[98, 102, 110, 114, 116]⟩
def worthS : ByteArray := ⟨#[8, 12, 10, 13, 9]⟩
theorem esc_sign {σ : RS} {c x : Nat} (hc : σ.pk = c) (hs : J.sign c = some x) : σ.pk ≠ 0 ∧ goR J.escaped σ = (σ.next, some x) := by
  have hp : σ.pk ≠ 0 := by rw [hc]; intro e; rw [e] at hs; simp [J.sign] at hs
  refine ⟨hp, ?_⟩
  unfold J.escaped
  rw [sw_take hp (q := J.Rd.pure x) (by rw [hc]; simp only [hs]), pure_next x hp]
set_option maxHeartbeats 2000000 in
set_option maxRecDepth 4000 in
theorem escape_any (b NB : Nat) (σ : RS) (xs : List Nat) (w : World) (h : RIn w b σ) (hB : Bld w NB xs) (hb : b < NB) (hl : xs.length ≤ 100000) :
    Calls Tryd.prog 83 #[rp b, rp NB] w fun e w' => EscP b NB xs σ w e w' := by
  have P := peek_any b σ w h
  have hN := hB.lt
  obtain ⟨c, hcc⟩ : ∃ c, σ.pk = c := ⟨_, rfl⟩
  have HC : Hid (σ.pk = c) := hcc
  have hc256 : c < 256 := by rw [← hcc]; exact pk_lt σ
  rw [hcc] at P
  obtain ⟨ii, hii⟩ : ∃ ii : Int, (σ.i : Int) = ii := ⟨_, rfl⟩
  have hsz : σ.i ≤ 16384 := Nat.le_trans h.le h.sz
  have i0 : 0 ≤ ii := by omega
  have i1 : ii < 1000000 := by omega
  have H1 : Hid (RIn w b σ ∧ Bld w NB xs ∧ b < NB ∧ xs.length ≤ 100000 ∧ NB < w.heap.size ∧ (σ.i : Int) = ii) := ⟨h, hB, hb, hl, hN, hii⟩
  -- the memory behind peek
  have HM : Hid (∀ w', Below w.heap.size w w' → RIn w' b σ ∧ Bld w' NB xs ∧ KB NB b w w') := fun w' hbw =>
    ⟨h.below hbw, hB.grown hb (grown_below hbw _), KB.of_below (hbw.mono (by omega))⟩
  -- one place further
  have HS : Hid (∀ w', Below w.heap.size w w' → σ.pk ≠ 0 → RIn (w'.setCell ⟨b, 1, none⟩ (.int .i64 (ii + 1))) b σ.next ∧ Bld (w'.setCell ⟨b, 1, none⟩ (.int .i64 (ii + 1))) NB xs ∧ KB NB b w (w'.setCell ⟨b, 1, none⟩ (.int .i64 (ii + 1)))) := by
    intro w' hbw hp
    have hs := (h.below hbw).step' hp
    rw [hii] at hs
    exact ⟨hs, hB.grown hb (grown_trans (grown_below hbw _) (grown_set _ _ _ _)), (KB.of_below (hbw.mono (by omega))).trans (KB.of_grown (grown_set _ _ _ _) (by have := hbw.size; omega))⟩
  have HC1 : Hid (∀ w', Below w.heap.size w w' → w'.cell? ⟨b, 1, none⟩ = some (.int .i64 ii) ∧ w'.frozen? ⟨b, 1, none⟩ = false) := fun w' hbw => by
    have := h.below hbw
    exact ⟨by rw [← hii]; exact this.c1, this.fz 1⟩
  clear h hB hl hN hii hsz hcc hb
  by_cases e98 : c = 98
  · subst e98
    obtain ⟨hp, hG⟩ := esc_sign HC.out (show J.sign 98 = some 8 from rfl)
    have HG : Hid (goR J.escaped σ = (σ.next, some 8) ∧ σ.pk ≠ 0) := ⟨hG, hp⟩
    clear hp hG hc256
    rw [show (((98 : Nat) : Int)) = 98 from rfl] at P
    unfold rp at P ⊢
    go_enter Tryd.func83, Tryd.ntmps83
    have IX := fun w' => Any.strings_IndexByte lays137 signS 98 w'
    rw [show Lib.indexByte signS.data.toList ((98 : Int).toNat.toUInt8) = 0 from by decide] at IX
    have XI : ∀ w', (Instr.index 9 (.string worthS) (.int .i64 0)).run Tryd.prog w' = .ok (.int .u8 8) w' := fun w' => str_at worthS 0 (by decide) w'
    unfold signS at IX
    unfold worthS at XI
    go_wp2_with (first | (go_at_call 54; refine P.mono ?_; rintro e w1 ⟨rfl, hb1⟩; obtain ⟨c1, f1⟩ := HC1.out w1 hb1) | (go_at_call 101; refine (IX _).mono ?_; rintro e w2 ⟨rfl, hw2⟩; rw [hw2]; clear hw2) | fail)
    have hs := HS.out w1 hb1 HG.out.2
    have W := writeByte_any _ NB 8 xs hs.2.1 (by have := H1.out; omega)
    unfold rp at W
    refine W.mono ?_
    rintro e w3 ⟨rfl, hB3, hb3⟩
    simp only []
    go_wp2
    go_end0
    have H := H1.out
    refine ⟨rfl, [8], by simp, fun y hy => ?_, by simp, hB3, ?_, hs.2.2.trans (KB.of_below hb3)⟩
    · rw [HG.out.1] at hy; cases hy; rfl
    · rw [HG.out.1]; exact hs.1.keep hb3 H.2.2.1
  by_cases e102 : c = 102
  · subst e102
    obtain ⟨hp, hG⟩ := esc_sign HC.out (show J.sign 102 = some 12 from rfl)
    have HG : Hid (goR J.escaped σ = (σ.next, some 12) ∧ σ.pk ≠ 0) := ⟨hG, hp⟩
    clear hp hG hc256
    rw [show (((102 : Nat) : Int)) = 102 from rfl] at P
    unfold rp at P ⊢
    go_enter Tryd.func83, Tryd.ntmps83
    have IX := fun w' => Any.strings_IndexByte lays137 signS 102 w'
    rw [show Lib.indexByte signS.data.toList ((102 : Int).toNat.toUInt8) = 1 from by decide] at IX
    have XI : ∀ w', (Instr.index 9 (.string worthS) (.int .i64 1)).run Tryd.prog w' = .ok (.int .u8 12) w' := fun w' => str_at worthS 1 (by decide) w'
    unfold signS at IX
    unfold worthS at XI
    go_wp2_with (first | (go_at_call 54; refine P.mono ?_; rintro e w1 ⟨rfl, hb1⟩; obtain ⟨c1, f1⟩ := HC1.out w1 hb1) | (go_at_call 101; refine (IX _).mono ?_; rintro e w2 ⟨rfl, hw2⟩; rw [hw2]; clear hw2) | fail)
    have hs := HS.out w1 hb1 HG.out.2
    have W := writeByte_any _ NB 12 xs hs.2.1 (by have := H1.out; omega)
    unfold rp at W
    refine W.mono ?_
    rintro e w3 ⟨rfl, hB3, hb3⟩
    simp only []
    go_wp2
    go_end0
    have H := H1.out
    refine ⟨rfl, [12], by simp, fun y hy => ?_, by simp, hB3, ?_, hs.2.2.trans (KB.of_below hb3)⟩
    · rw [HG.out.1] at hy; cases hy; rfl
    · rw [HG.out.1]; exact hs.1.keep hb3 H.2.2.1
  by_cases e110 : c = 110
  · subst e110
    obtain ⟨hp, hG⟩ := esc_sign HC.out (show J.sign 110 = some 10 from rfl)
    have HG : Hid (goR J.escaped σ = (σ.next, some 10) ∧ σ.pk ≠ 0) := ⟨hG, hp⟩
    clear hp hG hc256
    rw [show (((110 : Nat) : Int)) = 110 from rfl] at P
    unfold rp at P ⊢
    go_enter Tryd.func83, Tryd.ntmps83
    have IX := fun w' => Any.strings_IndexByte lays137 signS 110 w'
    rw [show Lib.indexByte signS.data.toList ((110 : Int).toNat.toUInt8) = 2 from by decide] at IX
    have XI : ∀ w', (Instr.index 9 (.string worthS) (.int .i64 2)).run Tryd.prog w' = .ok (.int .u8 10) w' := fun w' => str_at worthS 2 (by decide) w'
    unfold signS at IX
    unfold worthS at XI
    go_wp2_with (first | (go_at_call 54; refine P.mono ?_; rintro e w1 ⟨rfl, hb1⟩; obtain ⟨c1, f1⟩ := HC1.out w1 hb1) | (go_at_call 101; refine (IX _).mono ?_; rintro e w2 ⟨rfl, hw2⟩; rw [hw2]; clear hw2) | fail)
    have hs := HS.out w1 hb1 HG.out.2
    have W := writeByte_any _ NB 10 xs hs.2.1 (by have := H1.out; omega)
    unfold rp at W
    refine W.mono ?_
    rintro e w3 ⟨rfl, hB3, hb3⟩
    simp only []
    go_wp2
    go_end0
    have H := H1.out
    refine ⟨rfl, [10], by simp, fun y hy => ?_, by simp, hB3, ?_, hs.2.2.trans (KB.of_below hb3)⟩
    · rw [HG.out.1] at hy; cases hy; rfl
    · rw [HG.out.1]; exact hs.1.keep hb3 H.2.2.1
  by_cases e114 : c = 114
  · subst e114
    obtain ⟨hp, hG⟩ := esc_sign HC.out (show J.sign 114 = some 13 from rfl)
    have HG : Hid (goR J.escaped σ = (σ.next, some 13) ∧ σ.pk ≠ 0) := ⟨hG, hp⟩
    clear hp hG hc256
    rw [show (((114 : Nat) : Int)) = 114 from rfl] at P
    unfold rp at P ⊢
    go_enter Tryd.func83, Tryd.ntmps83
    have IX := fun w' => Any.strings_IndexByte lays137 signS 114 w'
    rw [show Lib.indexByte signS.data.toList ((114 : Int).toNat.toUInt8) = 3 from by decide] at IX
    have XI : ∀ w', (Instr.index 9 (.string worthS) (.int .i64 3)).run Tryd.prog w' = .ok (.int .u8 13) w' := fun w' => str_at worthS 3 (by decide) w'
    unfold signS at IX
    unfold worthS at XI
    go_wp2_with (first | (go_at_call 54; refine P.mono ?_; rintro e w1 ⟨rfl, hb1⟩; obtain ⟨c1, f1⟩ := HC1.out w1 hb1) | (go_at_call 101; refine (IX _).mono ?_; rintro e w2 ⟨rfl, hw2⟩; rw [hw2]; clear hw2) | fail)
    have hs := HS.out w1 hb1 HG.out.2
    have W := writeByte_any _ NB 13 xs hs.2.1 (by have := H1.out; omega)
    unfold rp at W
    refine W.mono ?_
    rintro e w3 ⟨rfl, hB3, hb3⟩
    simp only []
    go_wp2
    go_end0
    have H := H1.out
    refine ⟨rfl, [13], by simp, fun y hy => ?_, by simp, hB3, ?_, hs.2.2.trans (KB.of_below hb3)⟩
    · rw [HG.out.1] at hy; cases hy; rfl
    · rw [HG.out.1]; exact hs.1.keep hb3 H.2.2.1
  by_cases e116 : c = 116
  · subst e116
    obtain ⟨hp, hG⟩ := esc_sign HC.out (show J.sign 116 = some 9 from rfl)
    have HG : Hid (goR J.escaped σ = (σ.next, some 9) ∧ σ.pk ≠ 0) := ⟨hG, hp⟩
    clear hp hG hc256
    rw [show (((116 : Nat) : Int)) = 116 from rfl] at P
    unfold rp at P ⊢
    go_enter Tryd.func83, Tryd.ntmps83
    have IX := fun w' => Any.strings_IndexByte lays137 signS 116 w'
    rw [show Lib.indexByte signS.data.toList ((116 : Int).toNat.toUInt8) = 4 from by decide] at IX
    have XI : ∀ w', (Instr.index 9 (.string worthS) (.int .i64 4)).run Tryd.prog w' = .ok (.int .u8 9) w' := fun w' => str_at worthS 4 (by decide) w'
    unfold signS at IX
    unfold worthS at XI
    go_wp2_with (first | (go_at_call 54; refine P.mono ?_; rintro e w1 ⟨rfl, hb1⟩; obtain ⟨c1, f1⟩ := HC1.out w1 hb1) | (go_at_call 101; refine (IX _).mono ?_; rintro e w2 ⟨rfl, hw2⟩; rw [hw2]; clear hw2) | fail)
    have hs := HS.out w1 hb1 HG.out.2
    have W := writeByte_any _ NB 9 xs hs.2.1 (by have := H1.out; omega)
    unfold rp at W
    refine W.mono ?_
    rintro e w3 ⟨rfl, hB3, hb3⟩
    simp only []
    go_wp2
    go_end0
    have H := H1.out
    refine ⟨rfl, [9], by simp, fun y hy => ?_, by simp, hB3, ?_, hs.2.2.trans (KB.of_below hb3)⟩
    · rw [HG.out.1] at hy; cases hy; rfl
    · rw [HG.out.1]; exact hs.1.keep hb3 H.2.2.1
  by_cases e34 : c = 34
  · subst e34
    obtain ⟨hp, hG⟩ := esc_sign HC.out (show J.sign 34 = some 34 from rfl)
    have HG : Hid (goR J.escaped σ = (σ.next, some 34) ∧ σ.pk ≠ 0) := ⟨hG, hp⟩
    clear hp hG hc256
    rw [show (((34 : Nat) : Int)) = 34 from rfl] at P
    unfold rp at P ⊢
    go_enter Tryd.func83, Tryd.ntmps83
    go_wp2_with (first | (go_at_call 54; refine P.mono ?_; rintro e w1 ⟨rfl, hb1⟩; obtain ⟨c1, f1⟩ := HC1.out w1 hb1) | fail)
    have hs := HS.out w1 hb1 HG.out.2
    have W := writeByte_any _ NB 34 xs hs.2.1 (by have := H1.out; omega)
    unfold rp at W
    refine W.mono ?_
    rintro e w3 ⟨rfl, hB3, hb3⟩
    simp only []
    go_wp2
    go_end0
    have H := H1.out
    refine ⟨rfl, [34], by simp, fun y hy => ?_, by simp, hB3, ?_, hs.2.2.trans (KB.of_below hb3)⟩
    · rw [HG.out.1] at hy; cases hy; rfl
    · rw [HG.out.1]; exact hs.1.keep hb3 H.2.2.1
  by_cases e92 : c = 92
  · subst e92
    obtain ⟨hp, hG⟩ := esc_sign HC.out (show J.sign 92 = some 92 from rfl)
    have HG : Hid (goR J.escaped σ = (σ.next, some 92) ∧ σ.pk ≠ 0) := ⟨hG, hp⟩
    clear hp hG hc256
    rw [show (((92 : Nat) : Int)) = 92 from rfl] at P
    unfold rp at P ⊢
    go_enter Tryd.func83, Tryd.ntmps83
    go_wp2_with (first | (go_at_call 54; refine P.mono ?_; rintro e w1 ⟨rfl, hb1⟩; obtain ⟨c1, f1⟩ := HC1.out w1 hb1) | fail)
    have hs := HS.out w1 hb1 HG.out.2
    have W := writeByte_any _ NB 92 xs hs.2.1 (by have := H1.out; omega)
    unfold rp at W
    refine W.mono ?_
    rintro e w3 ⟨rfl, hB3, hb3⟩
    simp only []
    go_wp2
    go_end0
    have H := H1.out
    refine ⟨rfl, [92], by simp, fun y hy => ?_, by simp, hB3, ?_, hs.2.2.trans (KB.of_below hb3)⟩
    · rw [HG.out.1] at hy; cases hy; rfl
    · rw [HG.out.1]; exact hs.1.keep hb3 H.2.2.1
  by_cases e47 : c = 47
  · subst e47
    obtain ⟨hp, hG⟩ := esc_sign HC.out (show J.sign 47 = some 47 from rfl)
    have HG : Hid (goR J.escaped σ = (σ.next, some 47) ∧ σ.pk ≠ 0) := ⟨hG, hp⟩
    clear hp hG hc256
    rw [show (((47 : Nat) : Int)) = 47 from rfl] at P
    unfold rp at P ⊢
    go_enter Tryd.func83, Tryd.ntmps83
    go_wp2_with (first | (go_at_call 54; refine P.mono ?_; rintro e w1 ⟨rfl, hb1⟩; obtain ⟨c1, f1⟩ := HC1.out w1 hb1) | fail)
    have hs := HS.out w1 hb1 HG.out.2
    have W := writeByte_any _ NB 47 xs hs.2.1 (by have := H1.out; omega)
    unfold rp at W
    refine W.mono ?_
    rintro e w3 ⟨rfl, hB3, hb3⟩
    simp only []
    go_wp2
    go_end0
    have H := H1.out
    refine ⟨rfl, [47], by simp, fun y hy => ?_, by simp, hB3, ?_, hs.2.2.trans (KB.of_below hb3)⟩
    · rw [HG.out.1] at hy; cases hy; rfl
    · rw [HG.out.1]; exact hs.1.keep hb3 H.2.2.1
  by_cases e117 : c = 117
  · subst e117
    have hp : σ.pk ≠ 0 := by rw [HC.out]; decide
    have hG : goR J.escaped σ = goR escU σ.next := by
      unfold J.escaped
      rw [sw_take hp (q := J.unit.then J.pairOr) (by rw [HC.out]; rfl)]
      rfl
    have HG : Hid (goR J.escaped σ = goR escU σ.next ∧ σ.pk ≠ 0) := ⟨hG, hp⟩
    clear hp hG hc256
    rw [show (((117 : Nat) : Int)) = 117 from rfl] at P
    unfold rp at P ⊢
    go_enter Tryd.func83, Tryd.ntmps83
    go_wp2_with (first | (go_at_call 54; refine P.mono ?_; rintro e w1 ⟨rfl, hb1⟩; obtain ⟨c1, f1⟩ := HC1.out w1 hb1) | fail)
    have hs := HS.out w1 hb1 HG.out.2
    have C := code_any b σ.next _ hs.1
    unfold rp at C
    refine C.mono ?_
    rintro e w2 ⟨V, rfl, hV, hgv, h2, g2⟩
    simp only []
    have hN2 : Bld w2 NB xs := hs.2.1.grown H1.out.2.2.1 g2
    have W := writeRune_any w2 NB V hV xs hN2 (by have := H1.out; omega)
    unfold rp at W
    have HH : Hid (Gives escU σ.next V ∧ RIn w2 b (goR escU σ.next).1 ∧ KB NB b w w2) :=
      ⟨hgv, h2, hs.2.2.trans (KB.of_grown g2 (by have := hs.2.1.lt; omega))⟩
    clear hgv h2 g2 hN2 hV
    go_wp2_with fail
    refine W.mono ?_
    rintro e w3 ⟨ys, r, rfl, hy1, hy2, hy3, hB3, hb3⟩
    simp only []
    go_wp2
    go_end0
    have H := H1.out
    refine ⟨rfl, ys, hy1, fun y hy => ?_, hy3, hB3, ?_, HH.out.2.2.trans (KB.of_below hb3)⟩
    · rw [HG.out.1] at hy
      have := HH.out.1 y hy
      subst this
      exact hy2 (escU_chr hy)
    · rw [HG.out.1]; exact HH.out.2.1.keep hb3 H.2.2.1
  have hG : goR J.escaped σ = (σ.refuse 160, none) := by
    unfold J.escaped
    refine sw_stop H1.out.1.ok fun s i _ _ => ?_
    rw [HC.out]
    have : J.sign c = none := by unfold J.sign; simp only [e98, e102, e110, e114, e116, e34, e92, e47, if_false]
    simp only [this, e117, if_false]
  have HG : Hid (goR J.escaped σ = (σ.refuse 160, none)) := hG
  have ne : ∀ k : Nat, c ≠ k → ((c : Int) == (k : Int)) = false := fun k hk => by simpa using fun e : (c : Int) = (k : Int) => hk (by omega)
  have n98 := ne 98 e98
  have n102 := ne 102 e102
  have n110 := ne 110 e110
  have n114 := ne 114 e114
  have n116 := ne 116 e116
  have n34 := ne 34 e34
  have n92 := ne 92 e92
  have n47 := ne 47 e47
  have n117 := ne 117 e117
  clear hG ne e98 e102 e110 e114 e116 e34 e92 e47 e117 hc256
  unfold rp at P ⊢
  go_enter Tryd.func83, Tryd.ntmps83
  go_wp2_with (first | (go_at_call 54; refine P.mono ?_; rintro e w1 ⟨rfl, hb1⟩) | fail)
  have hm := HM.out w1 hb1
  have R := refuse_any b σ 160 ⟨by decide, by decide⟩ w1 hm.1
  unfold rp at R
  refine R.mono ?_
  rintro e w2 ⟨rfl, h2, g2⟩
  simp only []
  go_wp2
  go_end0
  have H := H1.out
  refine ⟨rfl, [], by simp, fun y hy => ?_, by simp, by rw [List.append_nil]; exact hm.2.1.grown H.2.2.1 g2, ?_, hm.2.2.trans (KB.of_grown g2 (by have := hm.2.1.lt; omega))⟩
  · rw [HG.out] at hy; cases hy
  · rw [HG.out]; exact h2
end Go.Proofs.YtcfalgomcdmdhaaDoor
