import Derived.Test.YtblnoekogdpolaaDoorJBw
import Derived.Test.YtblnoekogdpolaaDoorJWit
import Derived.Deep.RegionWith
namespace Go.Proofs.YtblnoekogdpolaaDoor
open Go.RowKit Go.WideShapes Go.Joins
structure PutP (NB : Nat) (xs ys : List Nat) (w : World) (e : Ending) (w' : World) : Prop where
  ex : e = .returned (.tuple #[]) ∧ Wr w' NB (xs ++ ys) ∧ WK NB w w'
theorem str_atU (s : ByteArray) (k : Nat) (h : k < s.size) (w : World) : (Instr.index 9 (.string s) (.int .u8 (k : Int))).run Tryd.prog w = .ok (.int .u8 ((numsOf s).getD k 0 : Nat)) w := by
  rw [run_index_string w 9 s .u8 k Tryd.underlying9, dif_pos ⟨by omega, by omega⟩]
  have h2 : k < (numsOf s).length := by rw [numsOf_len]; exact h
  rw [List.getD_eq_getElem?_getD, List.getElem?_eq_getElem h2]
  simp [numsOf, ByteArray.getElem_eq_getElem_data]
def sixS : ByteArray := ⟨#[48, 49, 50, 51, 52, 53, 54, 55, 56, 57, 97, 98, 99, 100, 101, 102]⟩
theorem six_at (k : Nat) (h : k < 16) : (numsOf sixS).getD k 0 = J.hexC k := by
  have : ∀ k : Fin 16, (numsOf sixS).getD k.val 0 = J.hexC k.val := by decide
  exact this ⟨k, h⟩
theorem bset (c k : Nat) (h : c ≠ k) : ((c : Int) == (k : Int)) = false := by simpa using fun e : (c : Int) = (k : Int) => h (by omega)
theorem seqW {NB : Nat} {xs ys zs : List Nat} {w w' : World} (k : Wr w' NB (xs ++ ys ++ zs)) (hk : WK NB w w') {es : List Nat} (he : es = ys ++ zs) : PutP NB xs es w (.returned (.tuple #[])) w' := by
  subst he
  exact ⟨rfl, by rw [← List.append_assoc]; exact k, hk⟩
set_option maxHeartbeats 2000000 in
set_option maxRecDepth 8000 in
theorem charW_any (w : World) (NB c : Nat) (hc : c < 256) (xs : List Nat) (h : Wr w NB xs) (hl : xs.length ≤ 900000) :
    Calls Tryd.prog 91 #[rp NB, .int .u8 (c : Int)] w fun e w' => PutP NB xs (J.esc c) w e w' := by
  have B1 := fun (d : Nat) => byteW_any w NB d xs h (by omega)
  have HB : Hid (∀ (d : Nat) (ys : List Nat) (w' : World), ys.length ≤ 10 → Wr w' NB (xs ++ ys) → Calls Tryd.prog 67 #[rp NB, .int .u8 (d : Int)] w' fun e w'' => e = .returned .nilIface ∧ Wr w'' NB (xs ++ ys ++ [d]) ∧ WK NB w' w'') :=
    fun d ys w' hy hw => byteW_any w' NB d (xs ++ ys) hw (by rw [List.length_append]; omega)
  have HH : Hid (Wr w NB xs ∧ xs.length ≤ 900000 ∧ c < 256) := ⟨h, hl, hc⟩
  clear h hl
  by_cases e8 : c = 8
  · subst e8
    have IX := fun w' => Any.strings_IndexByte lays137 worthS 8 w'
    rw [show Lib.indexByte worthS.data.toList ((8 : Int).toNat.toUInt8) = 0 from by decide] at IX
    have XI : ∀ w', (Instr.index 9 (.string signS) (.int .i64 0)).run Tryd.prog w' = .ok (.int .u8 98) w' := fun w' => str_at signS 0 (by decide) w'
    have A1 := B1 92
    have A2 := HB.out 98 [92]
    unfold worthS at IX
    unfold signS at XI
    unfold rp at A1 A2 ⊢
    clear B1 hc
    rw [show (((8 : Nat) : Int)) = 8 from rfl]
    simp only [show (((92 : Nat) : Int)) = 92 from rfl, show (((98 : Nat) : Int)) = 98 from rfl] at A1 A2
    go_enter Tryd.func91, Tryd.ntmps91
    go_wp2_with (first | (go_at_call 67; refine (A2 _ (by simp) h1).mono ?_; rintro e w2 ⟨rfl, h2, k2⟩) | (go_at_call 67; refine A1.mono ?_; rintro e w1 ⟨rfl, h1, k1⟩) | (go_at_call 101; refine (IX _).mono ?_; rintro e w9 ⟨rfl, hw9⟩; rw [hw9]; clear hw9) | fail)
    go_end0
    exact seqW h2 (k1.trans k2) rfl
  by_cases e12 : c = 12
  · subst e12
    have IX := fun w' => Any.strings_IndexByte lays137 worthS 12 w'
    rw [show Lib.indexByte worthS.data.toList ((12 : Int).toNat.toUInt8) = 1 from by decide] at IX
    have XI : ∀ w', (Instr.index 9 (.string signS) (.int .i64 1)).run Tryd.prog w' = .ok (.int .u8 102) w' := fun w' => str_at signS 1 (by decide) w'
    have A1 := B1 92
    have A2 := HB.out 102 [92]
    unfold worthS at IX
    unfold signS at XI
    unfold rp at A1 A2 ⊢
    clear B1 hc
    rw [show (((12 : Nat) : Int)) = 12 from rfl]
    simp only [show (((92 : Nat) : Int)) = 92 from rfl, show (((102 : Nat) : Int)) = 102 from rfl] at A1 A2
    go_enter Tryd.func91, Tryd.ntmps91
    go_wp2_with (first | (go_at_call 67; refine (A2 _ (by simp) h1).mono ?_; rintro e w2 ⟨rfl, h2, k2⟩) | (go_at_call 67; refine A1.mono ?_; rintro e w1 ⟨rfl, h1, k1⟩) | (go_at_call 101; refine (IX _).mono ?_; rintro e w9 ⟨rfl, hw9⟩; rw [hw9]; clear hw9) | fail)
    go_end0
    exact seqW h2 (k1.trans k2) rfl
  by_cases e10 : c = 10
  · subst e10
    have IX := fun w' => Any.strings_IndexByte lays137 worthS 10 w'
    rw [show Lib.indexByte worthS.data.toList ((10 : Int).toNat.toUInt8) = 2 from by decide] at IX
    have XI : ∀ w', (Instr.index 9 (.string signS) (.int .i64 2)).run Tryd.prog w' = .ok (.int .u8 110) w' := fun w' => str_at signS 2 (by decide) w'
    have A1 := B1 92
    have A2 := HB.out 110 [92]
    unfold worthS at IX
    unfold signS at XI
    unfold rp at A1 A2 ⊢
    clear B1 hc
    rw [show (((10 : Nat) : Int)) = 10 from rfl]
    simp only [show (((92 : Nat) : Int)) = 92 from rfl, show (((110 : Nat) : Int)) = 110 from rfl] at A1 A2
    go_enter Tryd.func91, Tryd.ntmps91
    go_wp2_with (first | (go_at_call 67; refine (A2 _ (by simp) h1).mono ?_; rintro e w2 ⟨rfl, h2, k2⟩) | (go_at_call 67; refine A1.mono ?_; rintro e w1 ⟨rfl, h1, k1⟩) | (go_at_call 101; refine (IX _).mono ?_; rintro e w9 ⟨rfl, hw9⟩; rw [hw9]; clear hw9) | fail)
    go_end0
    exact seqW h2 (k1.trans k2) rfl
  by_cases e13 : c = 13
  · subst e13
    have IX := fun w' => Any.strings_IndexByte lays137 worthS 13 w'
    rw [show Lib.indexByte worthS.data.toList ((13 : Int).toNat.toUInt8) = 3 from by decide] at IX
    have XI : ∀ w', (Instr.index 9 (.string signS) (.int .i64 3)).run Tryd.prog w' = .ok (.int .u8 114) w' := fun w' => str_at signS 3 (by decide) w'
    have A1 := B1 92
    have A2 := HB.out 114 [92]
    unfold worthS at IX
    unfold signS at XI
    unfold rp at A1 A2 ⊢
    clear B1 hc
    rw [show (((13 : Nat) : Int)) = 13 from rfl]
    simp only [show (((92 : Nat) : Int)) = 92 from rfl, show (((114 : Nat) : Int)) = 114 from rfl] at A1 A2
    go_enter Tryd.func91, Tryd.ntmps91
    go_wp2_with (first | (go_at_call 67; refine (A2 _ (by simp) h1).mono ?_; rintro e w2 ⟨rfl, h2, k2⟩) | (go_at_call 67; refine A1.mono ?_; rintro e w1 ⟨rfl, h1, k1⟩) | (go_at_call 101; refine (IX _).mono ?_; rintro e w9 ⟨rfl, hw9⟩; rw [hw9]; clear hw9) | fail)
    go_end0
    exact seqW h2 (k1.trans k2) rfl
  by_cases e9 : c = 9
  · subst e9
    have IX := fun w' => Any.strings_IndexByte lays137 worthS 9 w'
    rw [show Lib.indexByte worthS.data.toList ((9 : Int).toNat.toUInt8) = 4 from by decide] at IX
    have XI : ∀ w', (Instr.index 9 (.string signS) (.int .i64 4)).run Tryd.prog w' = .ok (.int .u8 116) w' := fun w' => str_at signS 4 (by decide) w'
    have A1 := B1 92
    have A2 := HB.out 116 [92]
    unfold worthS at IX
    unfold signS at XI
    unfold rp at A1 A2 ⊢
    clear B1 hc
    rw [show (((9 : Nat) : Int)) = 9 from rfl]
    simp only [show (((92 : Nat) : Int)) = 92 from rfl, show (((116 : Nat) : Int)) = 116 from rfl] at A1 A2
    go_enter Tryd.func91, Tryd.ntmps91
    go_wp2_with (first | (go_at_call 67; refine (A2 _ (by simp) h1).mono ?_; rintro e w2 ⟨rfl, h2, k2⟩) | (go_at_call 67; refine A1.mono ?_; rintro e w1 ⟨rfl, h1, k1⟩) | (go_at_call 101; refine (IX _).mono ?_; rintro e w9 ⟨rfl, hw9⟩; rw [hw9]; clear hw9) | fail)
    go_end0
    exact seqW h2 (k1.trans k2) rfl
  by_cases e34 : c = 34
  · subst e34
    have A1 := B1 92
    have A2 := HB.out 34 [92]
    unfold rp at A1 A2 ⊢
    clear B1 hc
    rw [show (((34 : Nat) : Int)) = 34 from rfl]
    simp only [show (((34 : Nat) : Int)) = 34 from rfl] at A2
    rw [show (((92 : Nat) : Int)) = 92 from rfl] at A1
    go_enter Tryd.func91, Tryd.ntmps91
    go_wp2_with (first | (go_at_call 67; refine (A2 _ (by simp) h1).mono ?_; rintro e w2 ⟨rfl, h2, k2⟩) | (go_at_call 67; refine A1.mono ?_; rintro e w1 ⟨rfl, h1, k1⟩) | fail)
    go_end0
    exact seqW h2 (k1.trans k2) rfl
  by_cases e92 : c = 92
  · subst e92
    have A1 := B1 92
    have A2 := HB.out 92 [92]
    unfold rp at A1 A2 ⊢
    clear B1 hc
    rw [show (((92 : Nat) : Int)) = 92 from rfl]
    simp only [show (((92 : Nat) : Int)) = 92 from rfl] at A2
    rw [show (((92 : Nat) : Int)) = 92 from rfl] at A1
    go_enter Tryd.func91, Tryd.ntmps91
    go_wp2_with (first | (go_at_call 67; refine (A2 _ (by simp) h1).mono ?_; rintro e w2 ⟨rfl, h2, k2⟩) | (go_at_call 67; refine A1.mono ?_; rintro e w1 ⟨rfl, h1, k1⟩) | fail)
    go_end0
    exact seqW h2 (k1.trans k2) rfl
  have n8 := bset c 8 e8
  have n12 := bset c 12 e12
  have n10 := bset c 10 e10
  have n13 := bset c 13 e13
  have n9 := bset c 9 e9
  simp only [show (((8 : Nat) : Int)) = 8 from rfl, show (((12 : Nat) : Int)) = 12 from rfl, show (((10 : Nat) : Int)) = 10 from rfl, show (((13 : Nat) : Int)) = 13 from rfl, show (((9 : Nat) : Int)) = 9 from rfl] at n8 n12 n10 n13 n9
  have n34 := bset c 34 e34
  have n92 := bset c 92 e92
  simp only [show (((34 : Nat) : Int)) = 34 from rfl, show (((92 : Nat) : Int)) = 92 from rfl] at n34 n92
  have HE : Hid (c ≠ 8 ∧ c ≠ 12 ∧ c ≠ 10 ∧ c ≠ 13 ∧ c ≠ 9 ∧ c ≠ 34 ∧ c ≠ 92) := ⟨e8, e12, e10, e13, e9, e34, e92⟩
  by_cases q : c < 32
  · have e1 : J.esc c = [92, 117, 48, 48, 48 + c / 16, J.hexC (c % 16)] := by
      have := HE.out
      unfold J.esc
      rw [if_neg (by omega), if_neg (by omega), if_neg (by omega), if_neg (by omega), if_neg (by omega), if_neg (by omega), if_neg (by omega), if_pos q]
    have HE1 : Hid (J.esc c = [92, 117, 48, 48, 48 + c / 16, J.hexC (c % 16)]) := e1
    have hq : (c : Int) < 32 := by omega
    have X1 : ∀ w', (Instr.index 9 (.string sixS) (.int .u8 ((c / 16 : Nat) : Int))).run Tryd.prog w' = .ok (.int .u8 ((48 + c / 16 : Nat) : Int)) w' := fun w' => by
      have := str_atU sixS (c / 16) (by show c / 16 < 16; omega) w'
      rw [six_at _ (by omega)] at this
      rw [this, show J.hexC (c / 16) = 48 + c / 16 by unfold J.hexC; rw [if_pos (by omega)]]
    have X2 : ∀ w', (Instr.index 9 (.string sixS) (.int .u8 ((c % 16 : Nat) : Int))).run Tryd.prog w' = .ok (.int .u8 ((J.hexC (c % 16) : Nat) : Int)) w' := fun w' => by
      have := str_atU sixS (c % 16) (by show c % 16 < 16; omega) w'
      rw [six_at _ (by omega)] at this
      exact this
    have W := strW_any w NB ⟨#[92, 117, 48, 48]⟩ xs HH.out.1 (by have := HH.out; omega) (by decide)
    rw [show numsOf ⟨#[92, 117, 48, 48]⟩ = [92, 117, 48, 48] from rfl] at W
    have A2 := HB.out (48 + c / 16) [92, 117, 48, 48]
    have A3 := HB.out (J.hexC (c % 16)) ([92, 117, 48, 48] ++ [48 + c / 16])
    clear e8 e12 e10 e13 e9 e34 e92 e1 q B1 hc
    unfold sixS at X1 X2
    unfold rp at W A2 A3 ⊢
    go_enter Tryd.func91, Tryd.ntmps91
    go_wp2_with (first | (go_at_call 63; refine W.mono ?_; rintro e w1 ⟨rfl, h1, k1⟩) | fail)
    obtain ⟨J1, hJ1⟩ : ∃ J1 : Int, ((c / 16 : Nat) : Int) = J1 := ⟨_, rfl⟩
    obtain ⟨J2, hJ2⟩ : ∃ J2 : Int, ((c % 16 : Nat) : Int) = J2 := ⟨_, rfl⟩
    have d1 : (c : Int) / 16 = J1 := by omega
    have d2 : (c : Int) % 16 = J2 := by omega
    rw [hJ1] at X1
    rw [hJ2] at X2
    clear hJ1 hJ2
    generalize 48 + c / 16 = D1 at X1 A2 A3 HE1
    generalize J.hexC (c % 16) = D2 at X2 A3 HE1
    go_region_with (go_at_call 67; refine (A2 _ (by simp) (wr_below h1 (Below.refl _ _).drew)).mono ?_; rintro e w2 ⟨rfl, h2, k2⟩)
    go_wp2_with (first | (go_at_call 67; refine (A3 _ (by simp) (by rw [← List.append_assoc]; exact h2)).mono ?_; rintro e w3 ⟨rfl, h3, k3⟩) | fail)
    go_end0
    rw [HE1.out]
    exact ⟨rfl, by simpa using h3, (k1.drew.trans k2).trans k3⟩
  · have hq : ¬ (c : Int) < 32 := by omega
    have e1 : J.esc c = [c] := J.esc_high q e34 e92
    have HE1 : Hid (J.esc c = [c]) := e1
    have A1 := B1 c
    unfold rp at A1 ⊢
    clear e8 e12 e10 e13 e9 e34 e92 e1 q B1 hc
    go_enter Tryd.func91, Tryd.ntmps91
    go_wp2_with (first | (go_at_call 67; refine A1.mono ?_; rintro e w1 ⟨rfl, h1, k1⟩) | fail)
    go_end0
    rw [HE1.out]
    exact ⟨rfl, h1, k1⟩
inductive TxI (NB : Nat) (xs : List Nat) (s : ByteArray) (w : World) (t : Value) (wr : World) : Prop where
  | intro (k : Nat) (hk : k ≤ s.size) (ht : t = .int .i64 (k : Int)) (h : Wr wr NB (xs ++ 34 :: J.qbody ((numsOf s).take k))) (hK : WK NB w wr)
theorem qbody_app (a b : List Nat) : J.qbody (a ++ b) = J.qbody a ++ J.qbody b := by simp [J.qbody]
theorem qbody_six (s : List Nat) : (J.qbody s).length ≤ 6 * s.length := by
  induction s with
  | nil => simp [J.qbody]
  | cons c s ih =>
    have := J.esc_short c
    simp only [J.qbody, List.flatMap_cons, List.length_append, List.length_cons] at ih ⊢
    omega
set_option maxHeartbeats 2000000 in
set_option maxRecDepth 8000 in
theorem quoteW_any (w : World) (NB : Nat) (s : ByteArray) (hs : s.size ≤ 16384) (xs : List Nat) (h : Wr w NB xs) (hl : xs.length ≤ 700000) :
    Calls Tryd.prog 66 #[rp NB, .string s] w fun e w' => PutP NB xs (J.quoted (numsOf s)) w e w' := by
  have A1 := byteW_any w NB 34 xs h (by omega)
  rw [show (((34 : Nat) : Int)) = 34 from rfl] at A1
  have HH : Hid (s.size ≤ 16384 ∧ xs.length ≤ 700000) := ⟨hs, hl⟩
  have hn := numsOf_len s
  unfold rp at A1 ⊢
  clear h hl hs
  go_enter Tryd.func66, Tryd.ntmps66
  go_wp2_with (first | (go_at_call 67; refine A1.mono ?_; rintro e w1 ⟨rfl, h1, k1⟩) | fail)
  clear A1
  go_loopw [11] (fun t wr => TxI NB xs s w t wr) (fun t _ => s.size - (intOf t).toNat)
  case atStart => exact ⟨0, by omega, rfl, by simpa [J.qbody] using h1, k1⟩
  case round =>
    clear h1 k1
    obtain ⟨k, hk, rfl, h, hK⟩ := hrel
    have hq : (xs ++ 34 :: J.qbody ((numsOf s).take k)).length ≤ 899000 := by
      have := qbody_six ((numsOf s).take k)
      have h2 : ((numsOf s).take k).length ≤ 16384 := by rw [List.length_take]; have := HH.out; omega
      rw [List.length_append, List.length_cons]
      have := HH.out
      omega
    by_cases hlt : k < s.size
    · have hI : (k : Int) < (s.size : Int) := by omega
      have hx := fun w' => str_at s k hlt w'
      have hc := nums_byte' s k hlt
      have A := charW_any wr NB ((numsOf s).getD k 0) hc _ h (by omega)
      have e1 : J.qbody ((numsOf s).take (k + 1)) = J.qbody ((numsOf s).take k) ++ J.esc ((numsOf s).getD k 0) := by
        rw [List.take_add_one, qbody_app, List.getD_eq_getElem?_getD, List.getElem?_eq_getElem (by omega)]
        simp [J.qbody]
      have HQ : Hid (k < s.size ∧ WK NB w wr ∧ J.qbody ((numsOf s).take (k + 1)) = J.qbody ((numsOf s).take k) ++ J.esc ((numsOf s).getD k 0)) := ⟨hlt, hK, e1⟩
      generalize (numsOf s).getD k 0 = c at A hx HQ
      have hk1 : (0 : Int) ≤ (k : Int) := by omega
      have hN : (s.size : Int) ≤ 16384 := by have := HH.out; omega
      unfold rp at A
      clear h hK hq hk hlt e1 hc hn
      go_wp2_with (first | (go_at_call 91; refine A.mono ?_; rintro e w2 ⟨rfl, h2, k2⟩) | fail)
      go_roundw
      case rel =>
        have H := HQ.out
        exact ⟨k + 1, by omega, by rw [Int.natCast_add]; rfl, by rw [H.2.2]; simpa using h2, H.2.1.trans k2⟩
      case measure => have H := HQ.out; simp [intOf]; omega
    · obtain rfl : k = s.size := by omega
      have A := byteW_any wr NB 34 _ h (by omega)
      rw [show (((34 : Nat) : Int)) = 34 from rfl] at A
      have HQ : Hid (WK NB w wr ∧ (numsOf s).take s.size = numsOf s) := ⟨hK, by rw [← hn, List.take_length]⟩
      unfold rp at A
      clear h hK hq hk hn
      go_wp2_with (first | (go_at_call 67; refine A.mono ?_; rintro e w2 ⟨rfl, h2, k2⟩) | fail)
      go_end0
      rw [HQ.out.2] at h2
      exact ⟨rfl, by unfold J.quoted; simpa using h2, HQ.out.1.trans k2⟩
end Go.Proofs.YtblnoekogdpolaaDoor
