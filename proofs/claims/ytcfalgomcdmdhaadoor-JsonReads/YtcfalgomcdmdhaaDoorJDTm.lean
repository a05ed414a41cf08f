/-
  The document's text: its steps; fail leaves the reader's place.
-/
import Derived.Test.YtcfalgomcdmdhaaDoorJDInt
import Derived.Test.YtcfalgomcdmdhaaDoorJDCh
import Derived.Deep.Cut
import Derived.Lib.AppendStr
namespace Go.Proofs.YtcfalgomcdmdhaaDoor
open Go.RowKit Go.WideShapes Go.Joins

theorem foldU_snoc (acc : Nat) (l : List UInt8) (c : UInt8) : foldU acc (l ++ [c]) = 10 * foldU acc l + (c.toNat - 48) := by
  simp only [foldU, List.foldl_append, List.foldl_cons, List.foldl_nil]
theorem foldU_app (acc : Nat) (l m : List UInt8) : foldU acc (l ++ m) = foldU (foldU acc l) m := by
  simp only [foldU, List.foldl_append]
theorem foldU_take {l : List UInt8} {k : Nat} : foldU 0 (l.take k) ≤ foldU 0 l := by
  have := foldU_app 0 (l.take k) (l.drop k)
  rw [List.take_append_drop] at this
  rw [this]
  exact foldU_le _ _
theorem foldU_next {l : List UInt8} {k : Nat} (h : k < l.length) : foldU 0 (l.take (k + 1)) = 10 * foldU 0 (l.take k) + (l[k].toNat - 48) := by
  rw [List.take_succ_eq_append_getElem h, foldU_snoc]
theorem nums_u {D : ByteArray} {ds : List UInt8} (h : D.data.toList = ds) {k : Nat} (hk : k < ds.length) : (numsOf D).getD k 0 = ds[k].toNat := by
  subst h
  rw [toNat_map, List.getD_eq_getElem?_getD, List.getElem?_map, List.getElem?_eq_getElem hk]
  rfl
theorem size_u {D : ByteArray} {ds : List UInt8} (h : D.data.toList = ds) : D.size = ds.length := by
  subst h; show D.data.size = _; rw [Array.length_toList]
/-- Between two digits. -/
inductive IntI (ds : List UInt8) (w : World) (s7 s8 : Value) (wr : World) : Prop where
  | intro (k : Nat) (hk : k ≤ ds.length) (h8 : s8 = .int .i64 (k : Int)) (N : Int) (h7 : s7 = .int .i64 N) (hN : N = -(foldU 0 (ds.take k) : Int)) (hb : Below w.heap.size w wr)
/-- what Int answers -/
structure IntP (s : ByteArray) (w : World) (e : Ending) (w' : World) : Prop where
  ex : ∃ (n : Int) (f : Bool), e = .returned (.tuple #[.int .i64 n, .bool f]) ∧ (f = true ↔ J.Rng (J.intOf (numsOf s))) ∧ (f = true → n = J.intOf (numsOf s)) ∧ Below w.heap.size w w'
set_option maxHeartbeats 4000000 in
set_option maxRecDepth 8000 in
theorem dInt_any (s : ByteArray) (hs : IntIs s) (hz : s.size ≤ 20000) (w : World) : Calls Tryd.prog 97 #[.string s] w fun e w' => IntP s w e w' := by
  obtain ⟨m, ds, hd, hne, h45, hs, hfit, hI⟩ := hs.ex
  have hdl : 0 < ds.length := List.length_pos_iff.2 hne
  cases m with
  | false =>
    simp only [Bool.false_eq_true, if_false] at hs hfit hI
    have hsz : s.size = ds.length := size_u hs
    have hc0 : (numsOf s).getD 0 0 ≠ 45 := by
      rw [nums_u hs hdl]
      intro e
      refine h45 ?_
      rw [List.head?_eq_getElem?, List.getElem?_eq_getElem hdl]
      exact congrArg some (UInt8.toNat_inj.1 e)
    have hx0 := fun w' => str_at s 0 (by omega) w'
    obtain ⟨C0, hC0⟩ : ∃ C : Int, (((numsOf s).getD 0 0 : Nat) : Int) = C := ⟨_, rfl⟩
    rw [hC0] at hx0
    simp only [show (((0 : Nat) : Int)) = 0 from rfl] at hx0
    have hcb : (C0 == 45) = false := by simpa using fun e : C0 = 45 => hc0 (by omega)
    have HDS : Hid (s.size = ds.length) := hsz
    have hDt : s.toList = ds := by rw [Lib.toList_data]; exact hs
    have hLt : mostS.toList = mostS.data.toList := Lib.toList_data _
    have HR : Hid (J.Rng (J.intOf (numsOf s)) → foldU 0 ds ≤ 9223372036854775808 ∧ J.intOf (numsOf s) = (foldU 0 ds : Int)) := fun hr => by
      unfold J.Rng at hr
      rw [hI] at hr
      exact ⟨by omega, hI⟩
    have NO : Hid (¬ J.Rng (J.intOf (numsOf s)) → IntP s w (.returned (.tuple #[.int .i64 0, .bool false])) w) := fun hr => ⟨0, false, rfl, ⟨fun e => (by cases e), fun e => absurd e hr⟩, fun e => (by cases e), Below.refl _ _⟩
    have HX : Hid (∀ k (hk : k < ds.length) w', (Instr.index 9 (.string s) (.int .i64 (k : Int))).run Tryd.prog w' = .ok (.int .u8 (ds[k].toNat : Int)) w' ∧ 48 ≤ ds[k].toNat ∧ ds[k].toNat ≤ 57) := fun k hk w' => by
      have := str_at s k (by omega) w'
      rw [nums_u hs hk] at this
      exact ⟨this, hd _ (List.getElem_mem _)⟩
    have HZ : Hid (ds.length ≤ 20000) := by show _ ≤ _; omega
    obtain ⟨G, hG⟩ : ∃ G : Bool, (!(Op.bytesLess s.toList mostS.toList || s.toList == mostS.toList)) = G := ⟨_, rfl⟩
    rw [hDt, hLt] at hG
    rw [hG] at hfit
    rw [← hDt, ← hLt] at hG
    have HF : Hid ((19 < ds.length ∨ ds.length = 19 ∧ G = true) ↔ ¬ J.Rng (J.intOf (numsOf s))) := hfit
    have hDI : (s.size : Int) = (ds.length : Int) := by omega
    have hG : (!Op.bytesLess s.toList [57, 50, 50, 51, 51, 55, 50, 48, 51, 54, 56, 53, 52, 55, 55, 53, 56, 48, 55] && !(s.toList == [57, 50, 50, 51, 51, 55, 50, 48, 51, 54, 56, 53, 52, 55, 55, 53, 56, 48, 55])) = G := by rw [← Bool.not_or, show ([57, 50, 50, 51, 51, 55, 50, 48, 51, 54, 56, 53, 52, 55, 55, 53, 56, 48, 55] : List UInt8) = mostS.toList by rw [Lib.toList_data]; rfl]; exact hG
    clear hs hfit hI hsz hDt hLt hne h45 hz hd hc0 hC0
    by_cases hA : 19 < ds.length
    · have q1 : (19 : Int) < (s.size : Int) := by omega
      have HNO : Hid (IntP s w (.returned (.tuple #[.int .i64 0, .bool false])) w) := NO.out (HF.out.1 (.inl hA))
      clear hA hG hDI hdl
      go_enter Tryd.func97, Tryd.ntmps97
      go_wp2_with fail
      go_ret2
      exact HNO.out
    have q1 : ¬ (19 : Int) < (s.size : Int) := by omega
    by_cases hB : ds.length = 19
    · have q2 : ((s.size : Int) == 19) = true := by simp; omega
      cases G with
      | true =>
        have HNO : Hid (IntP s w (.returned (.tuple #[.int .i64 0, .bool false])) w) := NO.out (HF.out.1 (.inr ⟨hB, rfl⟩))
        clear hA hB hDI hdl
        go_enter Tryd.func97, Tryd.ntmps97
        go_wp2_with fail
        go_ret2
        exact HNO.out
      | false =>
        have HRN : Hid (J.Rng (J.intOf (numsOf s))) := by
          refine Classical.not_not.1 fun e => ?_
          rcases HF.out.2 e with h | ⟨_, h⟩
          · exact hA h
          · cases h
        clear hA hB hDI hdl
        go_enter Tryd.func97, Tryd.ntmps97
        go_wp2_with fail
        go_loopw [7, 8] (fun s7 s8 wr => IntI ds w s7 s8 wr) (fun _ s8 _ => ds.length - (intOf s8).toNat)
        case atStart => exact ⟨0, Nat.zero_le _, rfl, 0, rfl, rfl, Below.refl _ _⟩
        case round =>
          obtain ⟨k, hk, rfl, N, rfl, hN, hb⟩ := hrel
          by_cases hlt : k < ds.length
          · have hkI : (k : Int) < (s.size : Int) := by have := HDS.out; omega
            have hk0 : (0 : Int) ≤ (k : Int) := by omega
            obtain ⟨_, k1, k2⟩ := HX.out k hlt wr
            have hx := fun w' => (HX.out k hlt w').1
            have hnx := foldU_next hlt
            have hle := foldU_take (l := ds) (k := k + 1)
            have hmx := (HR.out HRN.out).1
            obtain ⟨C, hC⟩ : ∃ C : Int, ((ds[k].toNat : Nat) : Int) = C := ⟨_, rfl⟩
            rw [hC] at hx
            have k3 : (48 : Int) ≤ C := by omega
            have k4 : C ≤ 57 := by omega
            have n1 : N ≤ 0 := by omega
            have n2 : -9223372036854775808 ≤ 10 * N - (C - 48) := by omega
            have HN : Hid (10 * N - (C - 48) = -(foldU 0 (ds.take (k + 1)) : Int) ∧ k < ds.length ∧ Below w.heap.size w wr) := ⟨by omega, hlt, hb⟩
            have n3 : -9223372036854775808 ≤ 10 * N := by omega
            have wc : wrap64 (C - 48) = C - 48 := by unfold wrap64; omega
            have HZI : Hid ((k : Int) < 20000) := by have := HZ.out; show _ < _; omega
            have kz : (k : Int) < 20000 := HZI.out
            clear hk hb hN hnx hle hmx k1 k2
            go_wp2_with fail
            go_roundw
            case rel =>
              have H := HN.out
              exact ⟨k + 1, H.2.1, by rw [Int.natCast_add]; rfl, _, rfl, H.1, H.2.2⟩
            case measure => have H := HN.out; simp [intOf]; omega
          · obtain rfl : k = ds.length := by omega
            have hkI : ¬ ((ds.length : Nat) : Int) < (s.size : Int) := by have := HDS.out; omega
            have hF := HR.out HRN.out
            rw [List.take_length] at hN
            have HBW : Hid (Below w.heap.size w wr) := hb
            have HNN : Hid (N = -(foldU 0 ds : Int)) := hN
            have n1 : -9223372036854775808 ≤ N := by omega
            have n2 : N ≤ 0 := by omega
            have n3 : -N ≤ 9223372036854775807 := by have := HR.out HRN.out; have h2 := HRN.out; unfold J.Rng at h2; omega
            clear hk hb hN hF hlt
            go_wp2_with fail
            go_ret2
            have H := HR.out HRN.out
            have HNv := HNN.out
            refine ⟨_, true, rfl, ⟨fun _ => HRN.out, fun _ => rfl⟩, fun _ => ?_, HBW.out⟩
            rw [H.2]
            omega
    · have q2 : ((s.size : Int) == 19) = false := by simp; omega
      have HRN : Hid (J.Rng (J.intOf (numsOf s))) := by
        refine Classical.not_not.1 fun e => ?_
        rcases HF.out.2 e with h | ⟨h, _⟩
        · exact hA h
        · exact hB h
      clear hA hB hDI hdl hG
      go_enter Tryd.func97, Tryd.ntmps97
      go_wp2_with fail
      go_loopw [7, 8] (fun s7 s8 wr => IntI ds w s7 s8 wr) (fun _ s8 _ => ds.length - (intOf s8).toNat)
      case atStart => exact ⟨0, Nat.zero_le _, rfl, 0, rfl, rfl, Below.refl _ _⟩
      case round =>
        obtain ⟨k, hk, rfl, N, rfl, hN, hb⟩ := hrel
        by_cases hlt : k < ds.length
        · have hkI : (k : Int) < (s.size : Int) := by have := HDS.out; omega
          have hk0 : (0 : Int) ≤ (k : Int) := by omega
          obtain ⟨_, k1, k2⟩ := HX.out k hlt wr
          have hx := fun w' => (HX.out k hlt w').1
          have hnx := foldU_next hlt
          have hle := foldU_take (l := ds) (k := k + 1)
          have hmx := (HR.out HRN.out).1
          obtain ⟨C, hC⟩ : ∃ C : Int, ((ds[k].toNat : Nat) : Int) = C := ⟨_, rfl⟩
          rw [hC] at hx
          have k3 : (48 : Int) ≤ C := by omega
          have k4 : C ≤ 57 := by omega
          have n1 : N ≤ 0 := by omega
          have n2 : -9223372036854775808 ≤ 10 * N - (C - 48) := by omega
          have HN : Hid (10 * N - (C - 48) = -(foldU 0 (ds.take (k + 1)) : Int) ∧ k < ds.length ∧ Below w.heap.size w wr) := ⟨by omega, hlt, hb⟩
          have n3 : -9223372036854775808 ≤ 10 * N := by omega
          have wc : wrap64 (C - 48) = C - 48 := by unfold wrap64; omega
          have HZI : Hid ((k : Int) < 20000) := by have := HZ.out; show _ < _; omega
          have kz : (k : Int) < 20000 := HZI.out
          clear hk hb hN hnx hle hmx k1 k2
          go_wp2_with fail
          go_roundw
          case rel =>
            have H := HN.out
            exact ⟨k + 1, H.2.1, by rw [Int.natCast_add]; rfl, _, rfl, H.1, H.2.2⟩
          case measure => have H := HN.out; simp [intOf]; omega
        · obtain rfl : k = ds.length := by omega
          have hkI : ¬ ((ds.length : Nat) : Int) < (s.size : Int) := by have := HDS.out; omega
          have hF := HR.out HRN.out
          rw [List.take_length] at hN
          have HBW : Hid (Below w.heap.size w wr) := hb
          have HNN : Hid (N = -(foldU 0 ds : Int)) := hN
          have n1 : -9223372036854775808 ≤ N := by omega
          have n2 : N ≤ 0 := by omega
          have n3 : -N ≤ 9223372036854775807 := by have := HR.out HRN.out; have h2 := HRN.out; unfold J.Rng at h2; omega
          clear hk hb hN hF hlt
          go_wp2_with fail
          go_ret2
          have H := HR.out HRN.out
          have HNv := HNN.out
          refine ⟨_, true, rfl, ⟨fun _ => HRN.out, fun _ => rfl⟩, fun _ => ?_, HBW.out⟩
          rw [H.2]
          omega
  | true =>
    simp only [if_true] at hs hfit hI
    have hsz : s.size = ds.length + 1 := by rw [size_u hs]; rfl
    have hc0 : (numsOf s).getD 0 0 = 45 := by rw [nums_u hs (by simp)]; rfl
    have hx0 := fun w' => str_at s 0 (by omega) w'
    rw [hc0] at hx0
    simp only [show (((0 : Nat) : Int)) = 0 from rfl, show (((45 : Nat) : Int)) = 45 from rfl] at hx0
    obtain ⟨D, hD⟩ : ∃ D, s.extract 1 s.size = D := ⟨_, rfl⟩
    have hDd : D.data.toList = ds := by
      rw [← hD]
      simp only [ByteArray.data_extract, Array.toList_extract, List.extract_eq_take_drop]
      rw [hs, List.drop_succ_cons, List.drop_zero, List.take_of_length_le (by omega)]
    have hDs : D.size = ds.length := size_u hDd
    have hx1 : ∀ w', (Instr.slice 9 (.string s) (some (.int .i64 1)) none none).run Tryd.prog w' = .ok (.string D) w' := fun w' => by
      have := run_slice_string_l w' 9 s Tryd.underlying9 .i64 1 (by omega) (by omega)
      rw [show (1 : Int).toNat = 1 from rfl, hD] at this
      exact this
    have HDS : Hid (D.size = ds.length) := hDs
    have hDt : D.toList = ds := by rw [Lib.toList_data]; exact hDd
    have hLt : moreS.toList = moreS.data.toList := Lib.toList_data _
    have HR : Hid (J.Rng (J.intOf (numsOf s)) → foldU 0 ds ≤ 9223372036854775808 ∧ J.intOf (numsOf s) = -(foldU 0 ds : Int)) := fun hr => by
      unfold J.Rng at hr
      rw [hI] at hr
      exact ⟨by omega, hI⟩
    have NO : Hid (¬ J.Rng (J.intOf (numsOf s)) → IntP s w (.returned (.tuple #[.int .i64 0, .bool false])) w) := fun hr => ⟨0, false, rfl, ⟨fun e => (by cases e), fun e => absurd e hr⟩, fun e => (by cases e), Below.refl _ _⟩
    have HX : Hid (∀ k (hk : k < ds.length) w', (Instr.index 9 (.string D) (.int .i64 (k : Int))).run Tryd.prog w' = .ok (.int .u8 (ds[k].toNat : Int)) w' ∧ 48 ≤ ds[k].toNat ∧ ds[k].toNat ≤ 57) := fun k hk w' => by
      have := str_at D k (by omega) w'
      rw [nums_u hDd hk] at this
      exact ⟨this, hd _ (List.getElem_mem _)⟩
    have HZ : Hid (ds.length ≤ 20000) := by show _ ≤ _; omega
    obtain ⟨G, hG⟩ : ∃ G : Bool, (!(Op.bytesLess D.toList moreS.toList || D.toList == moreS.toList)) = G := ⟨_, rfl⟩
    rw [hDt, hLt] at hG
    rw [hG] at hfit
    rw [← hDt, ← hLt] at hG
    have HF : Hid ((19 < ds.length ∨ ds.length = 19 ∧ G = true) ↔ ¬ J.Rng (J.intOf (numsOf s))) := hfit
    have hDI : (D.size : Int) = (ds.length : Int) := by omega
    have hG : (!Op.bytesLess D.toList [57, 50, 50, 51, 51, 55, 50, 48, 51, 54, 56, 53, 52, 55, 55, 53, 56, 48, 56] && !(D.toList == [57, 50, 50, 51, 51, 55, 50, 48, 51, 54, 56, 53, 52, 55, 55, 53, 56, 48, 56])) = G := by rw [← Bool.not_or, show ([57, 50, 50, 51, 51, 55, 50, 48, 51, 54, 56, 53, 52, 55, 55, 53, 56, 48, 56] : List UInt8) = moreS.toList by rw [Lib.toList_data]; rfl]; exact hG
    clear hs hfit hI hsz hDt hLt hne h45 hz hd hc0 hD hDd hDs
    by_cases hA : 19 < ds.length
    · have q1 : (19 : Int) < (D.size : Int) := by omega
      have HNO : Hid (IntP s w (.returned (.tuple #[.int .i64 0, .bool false])) w) := NO.out (HF.out.1 (.inl hA))
      clear hA hG hDI hdl
      go_enter Tryd.func97, Tryd.ntmps97
      go_wp2_with fail
      go_ret2
      exact HNO.out
    have q1 : ¬ (19 : Int) < (D.size : Int) := by omega
    by_cases hB : ds.length = 19
    · have q2 : ((D.size : Int) == 19) = true := by simp; omega
      cases G with
      | true =>
        have HNO : Hid (IntP s w (.returned (.tuple #[.int .i64 0, .bool false])) w) := NO.out (HF.out.1 (.inr ⟨hB, rfl⟩))
        clear hA hB hDI hdl
        go_enter Tryd.func97, Tryd.ntmps97
        go_wp2_with fail
        go_ret2
        exact HNO.out
      | false =>
        have HRN : Hid (J.Rng (J.intOf (numsOf s))) := by
          refine Classical.not_not.1 fun e => ?_
          rcases HF.out.2 e with h | ⟨_, h⟩
          · exact hA h
          · cases h
        clear hA hB hDI hdl
        go_enter Tryd.func97, Tryd.ntmps97
        go_wp2_with fail
        go_loopw [7, 8] (fun s7 s8 wr => IntI ds w s7 s8 wr) (fun _ s8 _ => ds.length - (intOf s8).toNat)
        case atStart => exact ⟨0, Nat.zero_le _, rfl, 0, rfl, rfl, Below.refl _ _⟩
        case round =>
          obtain ⟨k, hk, rfl, N, rfl, hN, hb⟩ := hrel
          by_cases hlt : k < ds.length
          · have hkI : (k : Int) < (D.size : Int) := by have := HDS.out; omega
            have hk0 : (0 : Int) ≤ (k : Int) := by omega
            obtain ⟨_, k1, k2⟩ := HX.out k hlt wr
            have hx := fun w' => (HX.out k hlt w').1
            have hnx := foldU_next hlt
            have hle := foldU_take (l := ds) (k := k + 1)
            have hmx := (HR.out HRN.out).1
            obtain ⟨C, hC⟩ : ∃ C : Int, ((ds[k].toNat : Nat) : Int) = C := ⟨_, rfl⟩
            rw [hC] at hx
            have k3 : (48 : Int) ≤ C := by omega
            have k4 : C ≤ 57 := by omega
            have n1 : N ≤ 0 := by omega
            have n2 : -9223372036854775808 ≤ 10 * N - (C - 48) := by omega
            have HN : Hid (10 * N - (C - 48) = -(foldU 0 (ds.take (k + 1)) : Int) ∧ k < ds.length ∧ Below w.heap.size w wr) := ⟨by omega, hlt, hb⟩
            have n3 : -9223372036854775808 ≤ 10 * N := by omega
            have wc : wrap64 (C - 48) = C - 48 := by unfold wrap64; omega
            have HZI : Hid ((k : Int) < 20000) := by have := HZ.out; show _ < _; omega
            have kz : (k : Int) < 20000 := HZI.out
            clear hk hb hN hnx hle hmx k1 k2
            go_wp2_with fail
            go_roundw
            case rel =>
              have H := HN.out
              exact ⟨k + 1, H.2.1, by rw [Int.natCast_add]; rfl, _, rfl, H.1, H.2.2⟩
            case measure => have H := HN.out; simp [intOf]; omega
          · obtain rfl : k = ds.length := by omega
            have hkI : ¬ ((ds.length : Nat) : Int) < (D.size : Int) := by have := HDS.out; omega
            have hF := HR.out HRN.out
            rw [List.take_length] at hN
            have HBW : Hid (Below w.heap.size w wr) := hb
            have HNN : Hid (N = -(foldU 0 ds : Int)) := hN
            have n1 : -9223372036854775808 ≤ N := by omega
            have n2 : N ≤ 0 := by omega
            skip
            clear hk hb hN hF hlt
            go_wp2_with fail
            go_ret2
            have H := HR.out HRN.out
            have HNv := HNN.out
            refine ⟨_, true, rfl, ⟨fun _ => HRN.out, fun _ => rfl⟩, fun _ => ?_, HBW.out⟩
            rw [H.2]
            omega
    · have q2 : ((D.size : Int) == 19) = false := by simp; omega
      have HRN : Hid (J.Rng (J.intOf (numsOf s))) := by
        refine Classical.not_not.1 fun e => ?_
        rcases HF.out.2 e with h | ⟨h, _⟩
        · exact hA h
        · exact hB h
      clear hA hB hDI hdl hG
      go_enter Tryd.func97, Tryd.ntmps97
      go_wp2_with fail
      go_loopw [7, 8] (fun s7 s8 wr => IntI ds w s7 s8 wr) (fun _ s8 _ => ds.length - (intOf s8).toNat)
      case atStart => exact ⟨0, Nat.zero_le _, rfl, 0, rfl, rfl, Below.refl _ _⟩
      case round =>
        obtain ⟨k, hk, rfl, N, rfl, hN, hb⟩ := hrel
        by_cases hlt : k < ds.length
        · have hkI : (k : Int) < (D.size : Int) := by have := HDS.out; omega
          have hk0 : (0 : Int) ≤ (k : Int) := by omega
          obtain ⟨_, k1, k2⟩ := HX.out k hlt wr
          have hx := fun w' => (HX.out k hlt w').1
          have hnx := foldU_next hlt
          have hle := foldU_take (l := ds) (k := k + 1)
          have hmx := (HR.out HRN.out).1
          obtain ⟨C, hC⟩ : ∃ C : Int, ((ds[k].toNat : Nat) : Int) = C := ⟨_, rfl⟩
          rw [hC] at hx
          have k3 : (48 : Int) ≤ C := by omega
          have k4 : C ≤ 57 := by omega
          have n1 : N ≤ 0 := by omega
          have n2 : -9223372036854775808 ≤ 10 * N - (C - 48) := by omega
          have HN : Hid (10 * N - (C - 48) = -(foldU 0 (ds.take (k + 1)) : Int) ∧ k < ds.length ∧ Below w.heap.size w wr) := ⟨by omega, hlt, hb⟩
          have n3 : -9223372036854775808 ≤ 10 * N := by omega
          have wc : wrap64 (C - 48) = C - 48 := by unfold wrap64; omega
          have HZI : Hid ((k : Int) < 20000) := by have := HZ.out; show _ < _; omega
          have kz : (k : Int) < 20000 := HZI.out
          clear hk hb hN hnx hle hmx k1 k2
          go_wp2_with fail
          go_roundw
          case rel =>
            have H := HN.out
            exact ⟨k + 1, H.2.1, by rw [Int.natCast_add]; rfl, _, rfl, H.1, H.2.2⟩
          case measure => have H := HN.out; simp [intOf]; omega
        · obtain rfl : k = ds.length := by omega
          have hkI : ¬ ((ds.length : Nat) : Int) < (D.size : Int) := by have := HDS.out; omega
          have hF := HR.out HRN.out
          rw [List.take_length] at hN
          have HBW : Hid (Below w.heap.size w wr) := hb
          have HNN : Hid (N = -(foldU 0 ds : Int)) := hN
          have n1 : -9223372036854775808 ≤ N := by omega
          have n2 : N ≤ 0 := by omega
          skip
          clear hk hb hN hF hlt
          go_wp2_with fail
          go_ret2
          have H := HR.out HRN.out
          have HNv := HNN.out
          refine ⟨_, true, rfl, ⟨fun _ => HRN.out, fun _ => rfl⟩, fun _ => ?_, HBW.out⟩
          rw [H.2]
          omega
end Go.Proofs.YtcfalgomcdmdhaaDoor
namespace Go.Proofs.YtcfalgomcdmdhaaDoor
open Go.RowKit Go.WideShapes Go.Joins

/-- The reader and the result's box, on the way. -/
structure NI (b : Nat) (S : ByteArray) (dp : Nat) (w : World) (σ : RS) (wc : World) : Prop where
  r : DIn wc b S dp σ
  x : wc.heap[w.heap.size]? = some jbox
  g : w.grownBy wc (some b)
  lt : b < w.heap.size
theorem NI.step {b : Nat} {S : ByteArray} {dp : Nat} {w wc w' : World} {σ σ' : RS} (h : NI b S dp w σ wc) (hr : DIn w' b S dp σ') (hg : wc.grownBy w' (some b)) : NI b S dp w σ' w' :=
  ⟨hr, box_grown h.x hg (by have := h.lt; omega), grown_trans h.g hg, h.lt⟩
theorem ni_may {b : Nat} {S : ByteArray} {dp x : Nat} (hl : x ≤ 255) {w wc : World} {σ : RS} (h : NI b S dp w σ wc) :
    Calls Tryd.prog 92 #[rp b, .int .u8 (x : Int)] wc fun e w' => ∃ B : Bool, e = .returned (.bool B) ∧ Gives (J.may x) σ B ∧ NI b S dp w (goR (J.may x) σ).1 w' :=
  (may_any b S dp x hl σ wc h.r).mono fun _ _ ⟨B, he, _, hv, hr, hg⟩ => ⟨B, he, fun v hv' => (hv v hv').symm, h.step hr hg⟩
theorem ni_digits {b : Nat} {S : ByteArray} {dp : Nat} {w wc : World} {σ : RS} (h : NI b S dp w σ wc) :
    Calls Tryd.prog 96 #[rp b] wc fun e w' => e = .returned (.tuple #[]) ∧ NI b S dp w (goR J.digits σ).1 w' :=
  (ddigits_any b S dp σ wc h.r).mono fun _ _ ⟨he, hr, hg⟩ => ⟨he, h.step hr hg⟩
theorem ite_dig {α : Type} {c : Bool} {q : J.Rd α} {σ σ' : RS} (h : (if c then (goR J.digits σ).1 else σ) = σ') : goR ((if c then J.digits else J.Rd.pure ()).then fun _ => q) σ = goR q σ' := by
  cases c with
  | false => simp only [Bool.false_eq_true, if_false] at h ⊢; rw [pure_then, h]
  | true => simp only [if_true] at h ⊢; rw [unit_then J.Good.digits, h]
theorem ite_dig' {α : Type} {c : Bool} {q : J.Rd α} {σ σ' : RS} (h : (if c then σ else (goR J.digits σ).1) = σ') : goR ((if c then J.Rd.pure () else J.digits).then fun _ => q) σ = goR q σ' := by
  cases c with
  | true => simp only [if_true] at h ⊢; rw [pure_then, h]
  | false => simp only [Bool.false_eq_true, if_false] at h ⊢; rw [unit_then J.Good.digits, h]
theorem ite_may {α : Type} {x : Nat} {c E : Bool} {r : Bool → J.Rd α} {σ σ' : RS} (h : if c then E = true ∧ σ = σ' else Gives (J.may x) σ E ∧ (goR (J.may x) σ).1 = σ') : goR ((if c then J.Rd.pure true else J.may x).then r) σ = goR (r E) σ' := by
  cases c with
  | true => simp only [if_true] at h ⊢; rw [pure_then, h.1, h.2]
  | false => simp only [Bool.false_eq_true, if_false] at h ⊢; rw [goR_thenV (J.Good.may x) h.1, h.2]
/-- e or E -/
def orIs (c E : Bool) (σ6 σ7 : RS) : Prop := if c then E = true ∧ σ6 = σ7 else Gives (J.may 69) σ6 E ∧ (goR (J.may 69) σ6).1 = σ7
theorem num_one {σ σ1 σ2 σ3 : RS} {B1 B2 : Bool} (g1 : Gives (J.may 45) σ B1) (h1 : (goR (J.may 45) σ).1 = σ1) (g2 : Gives (J.may 48) σ1 B2) (h2 : (goR (J.may 48) σ1).1 = σ2) (h3 : (if B2 then σ2 else (goR J.digits σ2).1) = σ3) :
    goR J.numB σ = goR J.numP σ3 := by
  unfold J.numB
  rw [goR_thenV (J.Good.may _) g1, h1, goR_thenV (J.Good.may _) g2, h2, ite_dig' h3]
theorem num_two {σ3 σ4 σ5 : RS} {B4 : Bool} (g4 : Gives (J.may 46) σ3 B4) (h4 : (goR (J.may 46) σ3).1 = σ4) (h5 : (if B4 then (goR J.digits σ4).1 else σ4) = σ5) : goR J.numP σ3 = goR (J.numE B4) σ5 := by
  unfold J.numP
  rw [goR_thenV (J.Good.may _) g4, h4, ite_dig h5]
theorem num_exp {p : Bool} {σ7 σ8 σ9 σ10 : RS} {E B8 : Bool} {σ5 σ6 : RS} {B6 : Bool} (g6 : Gives (J.may 101) σ5 B6) (h6 : (goR (J.may 101) σ5).1 = σ6) (h7 : orIs B6 E σ6 σ7)
    (hE : E = true) (g8 : Gives (J.may 43) σ7 B8) (h8 : (goR (J.may 43) σ7).1 = σ8) (h9 : if B8 then σ8 = σ9 else (goR (J.may 45) σ8).1 = σ9) (h10 : (goR J.digits σ9).1 = σ10) :
    goR (J.numE p) σ5 = goR (J.Rd.pure (!p && !true)) σ10 := by
  unfold J.numE
  rw [goR_thenV (J.Good.may _) g6, h6, ite_may h7, hE]
  simp only [if_true]
  rw [then_assoc, goR_thenV (J.Good.may _) g8, h8, then_assoc]
  have k : goR ((if B8 then J.Rd.pure true else J.may 45).then fun x => J.digits.then fun _ => J.Rd.pure (!p && !true)) σ8 = goR (J.digits.then fun _ => J.Rd.pure (!p && !true)) σ9 := by
    cases B8 with
    | true => simp only [if_true] at h9 ⊢; rw [pure_then, h9]
    | false => simp only [Bool.false_eq_true, if_false] at h9 ⊢; rw [goR_thenV (J.Good.may _) (gives_get _ _ false), h9]
  rw [k, unit_then J.Good.digits, h10]
theorem num_plain {p : Bool} {σ5 σ6 σ7 : RS} {E B6 : Bool} (g6 : Gives (J.may 101) σ5 B6) (h6 : (goR (J.may 101) σ5).1 = σ6) (h7 : orIs B6 E σ6 σ7) (hE : E = false) :
    goR (J.numE p) σ5 = goR (J.Rd.pure (!p && !false)) σ7 := by
  unfold J.numE
  rw [goR_thenV (J.Good.may _) g6, h6, ite_may h7, hE]
  simp only [Bool.false_eq_true, if_false]
  rw [pure_then]
/-- what number answers -/
structure DNumP (b : Nat) (S : ByteArray) (dp : Nat) (σ : RS) (w : World) (e : Ending) (w' : World) : Prop where
  ex : ∃ (k : Nat) (n : Int) (t : ByteArray), e = .returned (.agg (flatA k false n t)) ∧ k < 256 ∧ J.Rng n ∧ (∀ v, (goR J.number σ).2 = some v → v = .mk k false n (numsOf t) [] []) ∧ DIn w' b S dp (goR J.number σ).1 ∧ w.grownBy w' (some b)
theorem dnum_end {w wE wG : World} {b : Nat} {S : ByteArray} {dp : Nat} {σ s8 : RS} {a1 a2 a3 a4 a5 a6 : Value} (h : NI b S dp w s8 wE) (hb : Below wE.heap.size wE wG) (hs : (goR J.number σ).1 = s8)
    (k : Nat) (n : Int) (t : ByteArray) (hk : k < 256) (hn : J.Rng n) (hv : ∀ v, (goR J.number σ).2 = some v → v = .mk k false n (numsOf t) [] []) : DNumP b S dp σ w (.returned (.agg (flatA k false n t))) (set6 wG w.heap.size a1 a2 a3 a4 a5 a6) := by
  have g6 := set6_grown wG w.heap.size a1 a2 a3 a4 a5 a6
  have hg2 := grown_trans h.g (grown_below hb (some b))
  have hlt := h.lt
  refine ⟨k, n, t, rfl, hk, hn, hv, ?_, ⟨g6.os.trans hg2.os, g6.tape.trans hg2.tape, g6.output.trans hg2.output, Nat.le_trans hg2.size g6.size, fun i hi hne => ?_⟩⟩
  · rw [hs]
    have hlE := (h.r.below hb).lt
    exact (h.r.below hb).at (g6.block b hlE (fun e => by cases e; omega))
  · exact (g6.block i (Nat.lt_of_lt_of_le hi hg2.size) (fun e => by cases e; omega)).trans (hg2.block i hi hne)
set_option maxHeartbeats 4000000 in
set_option maxRecDepth 8000 in
theorem dnumber_any (b : Nat) (S : ByteArray) (dp : Nat) (σ : RS) (w : World) (h : DIn w b S dp σ) : Calls Tryd.prog 74 #[rp b] w fun e w' => DNumP b S dp σ w e w' := by
  have hlt := h.lt
  have hbA : Below w.heap.size w (w.alloc jbox) := (Below.refl _ _).alloc (Nat.le_refl _) jbox
  have hN := _root_.Go.heap_alloc_new w jbox
  have ni0 : NI b S dp w σ (w.alloc jbox) := ⟨h.below hbA, hN, grown_below hbA _, hlt⟩
  obtain ⟨i0, hi0, hc1, hi1⟩ := ni0.r.c1'
  have M1 := ni_may (x := 45) (by decide) ni0
  have HI0 : Hid (∀ s j, σ = .live s j → (i0 : Int) = (j : Int)) := hi1
  have HOK : Hid (σ.ok ∧ S.size ≤ 20000 ∧ i0 ≤ 20001) := ⟨h.ok, h.sz, hi0⟩
  obtain ⟨I, hI⟩ : ∃ I : Int, (i0 : Int) = I := ⟨_, rfl⟩
  rw [hI] at hc1
  have HII : Hid ((i0 : Int) = I) := hI
  simp only [show (((45 : Nat) : Int)) = 45 from rfl] at M1
  unfold rp at M1 ⊢
  unfold jbox zeroA at M1 hc1
  clear h hbA hN ni0 hi0 hi1 hI hlt
  go_enter Tryd.func74, Tryd.ntmps74
  go_wp2_with fail
  refine M1.mono ?_
  rintro e w1 ⟨B1, rfl, gv1, n1⟩
  obtain ⟨σ1, hσ1⟩ : ∃ x, (goR (J.may 45) σ).1 = x := ⟨_, rfl⟩
  rw [hσ1] at n1
  have M2 := ni_may (x := 48) (by decide) n1
  simp only [show (((48 : Nat) : Int)) = 48 from rfl] at M2
  unfold rp at M2
  have HG1 : Hid (Gives (J.may 45) σ B1 ∧ (goR (J.may 45) σ).1 = σ1) := ⟨gv1, hσ1⟩
  clear M1 hc1 gv1 hσ1 n1
  simp only []
  go_wp2_with fail
  refine M2.mono ?_
  rintro e w2 ⟨B2, rfl, gv2, n2⟩
  obtain ⟨σ2, hσ2⟩ : ∃ x, (goR (J.may 48) σ1).1 = x := ⟨_, rfl⟩
  rw [hσ2] at n2
  obtain ⟨σ3, hσ3⟩ : ∃ x, (if B2 then σ2 else (goR J.digits σ2).1) = x := ⟨_, rfl⟩
  have HG3 : Hid (goR J.numB σ = goR J.numP σ3) := num_one HG1.out.1 HG1.out.2 gv2 hσ2 hσ3
  have HN2 : Hid (NI b S dp w σ2 w2) := n2
  have HS3 : Hid ((if B2 then σ2 else (goR J.digits σ2).1) = σ3) := hσ3
  clear M2 gv2 hσ2 n2 HG1 hσ3
  simp only []
  go_upto_if 16 with fail
  go_cut [] from 8 (fun wc => NI b S dp w σ3 wc)
  case first =>
    cases B2 with
    | true =>
      go_wp2
      go_meet
      case rel => have := HS3.out; simp only [if_true] at this; rw [← this]; exact HN2.out
    | false =>
      have D3 := ni_digits HN2.out
      unfold rp at D3
      go_wp2_with fail
      refine D3.mono ?_
      rintro e w3 ⟨rfl, n3⟩
      clear D3
      go_wp2
      go_meet
      case rel => have := HS3.out; simp only [Bool.false_eq_true, if_false] at this; rw [← this]; exact n3
  case rest =>
  clear HS3 HN2
  have M4 := ni_may (x := 46) (by decide) hcut
  simp only [show (((46 : Nat) : Int)) = 46 from rfl] at M4
  unfold rp at M4
  clear hcut
  go_wp2_with fail
  refine M4.mono ?_
  rintro e w4 ⟨B4, rfl, gv4, n4⟩
  obtain ⟨σ4, hσ4⟩ : ∃ x, (goR (J.may 46) σ3).1 = x := ⟨_, rfl⟩
  rw [hσ4] at n4
  obtain ⟨σ5, hσ5⟩ : ∃ x, (if B4 then (goR J.digits σ4).1 else σ4) = x := ⟨_, rfl⟩
  have HG5 : Hid (goR J.numB σ = goR (J.numE B4) σ5) := by show _ = _; rw [HG3.out]; exact num_two gv4 hσ4 hσ5
  have HN4 : Hid (NI b S dp w σ4 w4) := n4
  have HS5 : Hid ((if B4 then (goR J.digits σ4).1 else σ4) = σ5) := hσ5
  clear M4 gv4 hσ4 n4 HG3 hσ5
  simp only []
  go_upto_if 20 with fail
  go_cut [4] from 8 (fun s4 wc => s4 = .bool (!B4) ∧ NI b S dp w σ5 wc)
  case first =>
    cases B4 with
    | false =>
      go_wp2
      go_meet
      case rel => have := HS5.out; simp only [Bool.false_eq_true, if_false] at this; rw [← this]; exact ⟨rfl, HN4.out⟩
    | true =>
      have D3 := ni_digits HN4.out
      unfold rp at D3
      go_wp2_with fail
      refine D3.mono ?_
      rintro e w5 ⟨rfl, n5⟩
      clear D3
      go_wp2
      go_meet
      case rel => have := HS5.out; simp only [if_true] at this; rw [← this]; exact ⟨rfl, n5⟩
  case rest =>
  obtain ⟨rfl, n5⟩ := hcut
  clear HS5 HN4
  have HN5 : Hid (NI b S dp w σ5 wc) := n5
  clear n5
  go_upto_region 9 with fail
  go_cut [28] from 8 (fun s28 wc => ∃ B6 σ6 E σ7, s28 = .bool E ∧ Gives (J.may 101) σ5 B6 ∧ (goR (J.may 101) σ5).1 = σ6 ∧ orIs B6 E σ6 σ7 ∧ NI b S dp w σ7 wc)
  case first =>
    have M6 := ni_may (x := 101) (by decide) HN5.out
    simp only [show (((101 : Nat) : Int)) = 101 from rfl] at M6
    unfold rp at M6
    go_wp2_with fail
    refine M6.mono ?_
    rintro e w6 ⟨B6, rfl, gv6, n6⟩
    obtain ⟨σ6, hσ6⟩ : ∃ x, (goR (J.may 101) σ5).1 = x := ⟨_, rfl⟩
    rw [hσ6] at n6
    have HG6 : Hid (Gives (J.may 101) σ5 B6 ∧ (goR (J.may 101) σ5).1 = σ6) := ⟨gv6, hσ6⟩
    have HN6 : Hid (NI b S dp w σ6 w6) := n6
    clear M6 gv6 hσ6 n6
    simp only []
    cases B6 with
    | true =>
      go_wp2
      go_meet
      case rel => exact ⟨true, σ6, true, σ6, rfl, HG6.out.1, HG6.out.2, ⟨rfl, rfl⟩, HN6.out⟩
    | false =>
      have M7 := ni_may (x := 69) (by decide) HN6.out
      simp only [show (((69 : Nat) : Int)) = 69 from rfl] at M7
      unfold rp at M7
      go_wp2_with fail
      refine M7.mono ?_
      rintro e w7 ⟨B7, rfl, gv7, n7⟩
      clear M7
      simp only []
      go_wp2
      go_meet
      case rel => exact ⟨false, σ6, B7, _, rfl, HG6.out.1, HG6.out.2, ⟨gv7, rfl⟩, n7⟩
  case rest =>
  obtain ⟨B6, σ6, E, σ7, rfl, gv6, hσ6, hE7, n7⟩ := hcut
  have H7 : Hid (Gives (J.may 101) σ5 B6 ∧ (goR (J.may 101) σ5).1 = σ6 ∧ orIs B6 E σ6 σ7) := ⟨gv6, hσ6, hE7⟩
  have HN7 : Hid (NI b S dp w σ7 wc) := n7
  clear gv6 hσ6 hE7 n7 HN5
  go_upto_if 28 with fail
  go_cut [4] from 8 (fun s4 wc => ∃ F σ10, s4 = .bool F ∧ goR J.numB σ = goR (J.Rd.pure F) σ10 ∧ NI b S dp w σ10 wc)
  case first =>
    cases E with
    | false =>
      go_wp2
      go_meet
      case rel => exact ⟨!B4, σ7, rfl, by rw [HG5.out, num_plain (p := B4) H7.out.1 H7.out.2.1 H7.out.2.2 rfl]; simp, HN7.out⟩
    | true =>
      have M8 := ni_may (x := 43) (by decide) HN7.out
      simp only [show (((43 : Nat) : Int)) = 43 from rfl] at M8
      unfold rp at M8
      go_wp2_with fail
      refine M8.mono ?_
      rintro e w8 ⟨B8, rfl, gv8, n8⟩
      obtain ⟨σ8, hσ8⟩ : ∃ x, (goR (J.may 43) σ7).1 = x := ⟨_, rfl⟩
      rw [hσ8] at n8
      clear M8
      simp only []
      cases B8 with
      | true =>
        have D9 := ni_digits n8
        unfold rp at D9
        go_wp2_with fail
        refine D9.mono ?_
        rintro e w10 ⟨rfl, n10⟩
        clear D9 n8
        simp only []
        go_wp2
        go_meet
        case rel => exact ⟨false, _, rfl, by rw [HG5.out, num_exp (p := B4) H7.out.1 H7.out.2.1 H7.out.2.2 rfl gv8 hσ8 (σ9 := σ8) (by simp) rfl]; simp, n10⟩
      | false =>
        have M9 := ni_may (x := 45) (by decide) n8
        simp only [show (((45 : Nat) : Int)) = 45 from rfl] at M9
        unfold rp at M9
        go_wp2_with fail
        refine M9.mono ?_
        rintro e w9 ⟨B9, rfl, _, n9⟩
        have D9 := ni_digits n9
        unfold rp at D9
        clear M9 n8 n9
        simp only []
        go_wp2_with fail
        refine D9.mono ?_
        rintro e w10 ⟨rfl, n10⟩
        clear D9
        simp only []
        go_wp2
        go_meet
        case rel => exact ⟨false, _, rfl, by rw [HG5.out, num_exp (p := B4) H7.out.1 H7.out.2.1 H7.out.2.2 rfl gv8 hσ8 (σ9 := (goR (J.may 45) σ8).1) (by simp) rfl]; simp, n10⟩
  case rest =>
  obtain ⟨F, σ10, rfl, hgo, n10⟩ := hcut
  have HN10 : Hid (NI b S dp w σ10 wc ∧ goR J.numB σ = goR (J.Rd.pure F) σ10) := ⟨n10, hgo⟩
  have HX : Hid (wc.heap[w.heap.size]? = some jbox) := n10.x
  have hst := num_state hgo n10.r.ok
  have HST : Hid ((goR J.number σ).1 = σ10) := hst
  clear hst hgo HN7 H7 HG5
  obtain ⟨i1, at1, hi1, hat1, hb1, hl1, hd1⟩ := n10.r.ex
  have c0 : wc.cell? ⟨b, 0, none⟩ = some (.string S) := by rw [cell_of_block hb1]; rfl
  have c1 : wc.cell? ⟨b, 1, none⟩ = some (.int .i64 (i1 : Int)) := by rw [cell_of_block hb1]; rfl
  have c2 : wc.cell? ⟨b, 2, none⟩ = some (.int .i64 (σ10.e : Int)) := by rw [cell_of_block hb1]; rfl
  obtain ⟨⟨r0, r1, r2, r3, r4, r5⟩, y0, y1, y2, y3, y4, y5⟩ := box_cells n10.x
  clear hb1
  cases σ10 with
  | dead s e =>
    have he : ((e : Int) != 0) = true := by
      have := n10.r.ok.1
      simp; omega
    simp only [RS.e] at c2
    have HE : Hid (∀ v, (goR J.number σ).2 = some v → v = .mk 0 false 0 (numsOf (⟨#[]⟩ : ByteArray)) [] []) := fun v hv => by
      have : goR J.numB σ = (.dead s e, none) := HN10.out.2
      rw [goR_number_none this] at hv
      cases hv
    clear n10 hl1 hd1 hi1 hat1
    go_wp2_with fail
    refine bodyPost_ret (results_cell_row rfl _ _ w.heap.size 25 (flatA 0 false 0 ⟨#[]⟩) (0, 0) _ rfl (set6_heap HX.out _ _ _ _ _ _) Tryd.underlying25 rfl size_json) rfl ?_
    exact dnum_end HN10.out.1 (Below.refl _ _) HST.out 0 0 ⟨#[]⟩ (by decide) (by unfold J.Rng; omega) HE.out
  | live s j =>
    obtain ⟨hsS, hij⟩ := hl1 s j rfl
    subst hsS
    subst hij
    simp only [RS.e] at c2
    rw [show (((0 : Nat) : Int)) = 0 from rfl] at c2
    have e2 : goR J.numB σ = (.live s i1, some F) := by rw [HN10.out.2, goR_pure F n10.r.ok]
    have hmo := goR_mono J.Good.numB σ HOK.out.1
    obtain ⟨s', k0, j', e3, e4⟩ := goR_live e2
    cases e4
    subst e3
    rw [e2] at hmo
    have hk0 : k0 ≤ i1 := hmo
    have hIK : I = (k0 : Int) := by have h1 := HI0.out s k0 rfl; have h2 := HII.out; omega
    subst hIK
    have hi1s : i1 ≤ s.size := n10.r.ok
    have hss : s.size ≤ 20000 := n10.r.sz
    obtain ⟨hnum, hwh⟩ := goR_number (show k0 ≤ s.size from HOK.out.1) e2
    have X := slice_mid s k0 i1 hk0 hi1s
    obtain ⟨tx, htx⟩ : ∃ tx, s.extract k0 i1 = tx := ⟨_, rfl⟩
    have htz : tx.size ≤ 20000 := by rw [← htx, ByteArray.size_extract]; omega
    rw [htx] at X hnum hwh
    have HNUM : Hid (goR J.number (.live s k0) = (.live s i1, some (J.numV F (numsOf tx))) ∧ tx.size ≤ 20000) := ⟨hnum, htz⟩
    have HWH : Hid (F = true → IntIs tx) := fun hf => int_is (by rw [hf] at hwh; exact hwh)
    obtain ⟨K, hK⟩ : ∃ K : Int, (k0 : Int) = K := ⟨_, rfl⟩
    obtain ⟨J0, hJ⟩ : ∃ J0 : Int, (i1 : Int) = J0 := ⟨_, rfl⟩
    rw [hK, hJ] at X
    rw [hJ] at c1
    rw [hK]
    clear n10 hl1 hd1 hi1 hat1 e2 hmo hk0 hi1s hss hnum hwh htx htz hK hJ r0 r1 r2 r3 r4 r5 y0 y1 y2 y3 y4 y5
    go_wp2_with fail
    go_quiet (fail)
    have B1 : Below wc.heap.size wc (wc.drewN nq) := below_dN (Below.refl _ _) _
    have hbx2 := box_below HX.out B1
    have HB1 : Hid (Below wc.heap.size wc (wc.drewN nq)) := B1
    have HX2 : Hid ((wc.drewN nq).heap[w.heap.size]? = some jbox) := hbx2
    have N3 : Hid (J.numV F (numsOf tx) = .mk 3 false 0 (numsOf tx) [] [] → ∀ v, (goR J.number (.live s k0)).2 = some v → v = .mk 3 false 0 (numsOf tx) [] []) := fun h v hv => by
      rw [HNUM.out.1] at hv
      cases hv
      exact h
    obtain ⟨⟨d0, d1, d2, d3, d4, d5⟩, f0, f1, f2, f3, f4, f5⟩ := box_cells hbx2
    generalize wc.drewN nq = wF at *
    clear c0 c1 c2 X B1 hbx2
    cases F with
    | false =>
      have HV : Hid (∀ v, (goR J.number (.live s k0)).2 = some v → v = .mk 3 false 0 (numsOf tx) [] []) := N3.out (by unfold J.numV; rw [if_neg]; rintro ⟨h, _⟩; cases h)
      go_wp2_with fail
      refine bodyPost_ret (results_cell_row rfl _ _ w.heap.size 25 (flatA 3 false 0 tx) (0, 0) _ rfl (set6_heap HX2.out _ _ _ _ _ _) Tryd.underlying25 rfl size_json) rfl ?_
      exact dnum_end HN10.out.1 HB1.out HST.out 3 0 tx (by decide) rng_zero HV.out
    | true =>
      by_cases hm : tx = ⟨#[45, 48]⟩
      · have hmb : (tx.toList == [45, 48]) = true := by rw [← dash_list]; exact (Lib.bytes_beq_iff tx ⟨#[45, 48]⟩).2 hm
        have HV : Hid (∀ v, (goR J.number (.live s k0)).2 = some v → v = .mk 3 false 0 (numsOf tx) [] []) := N3.out (by unfold J.numV; rw [if_neg]; rintro ⟨_, h, _⟩; exact h (by rw [hm]; rfl))
        clear hm
        go_wp2_with fail
        refine bodyPost_ret (results_cell_row rfl _ _ w.heap.size 25 (flatA 3 false 0 tx) (0, 0) _ rfl (set6_heap HX2.out _ _ _ _ _ _) Tryd.underlying25 rfl size_json) rfl ?_
        exact dnum_end HN10.out.1 HB1.out HST.out 3 0 tx (by decide) rng_zero HV.out
      · have hmb : (tx.toList == [45, 48]) = false := by rw [← dash_list]; exact (Lib.bytes_beq_false_iff tx ⟨#[45, 48]⟩).2 hm
        have HM : Hid (numsOf tx ≠ [45, 48]) := fun e => hm (numsOf_inj (by rw [e]; rfl))
        have PI := dInt_any tx (HWH.out rfl) HNUM.out.2 wF
        clear hm d0 d1 d2 d3 d4 d5 f0 f1 f2 f3 f4 f5
        go_wp2_with fail
        refine PI.mono ?_
        rintro e wG ⟨n, f, rfl, hf1, hf2, hbG⟩
        have HX3 : Hid (wG.heap[w.heap.size]? = some jbox) := box_below HX2.out hbG
        have HB3 : Hid (Below wc.heap.size wc wG) := below_more HB1.out hbG
        obtain ⟨⟨d0, d1, d2, d3, d4, d5⟩, f0, f1, f2, f3, f4, f5⟩ := box_cells HX3.out
        clear PI hbG
        simp only []
        cases f with
        | false =>
          have HV : Hid (∀ v, (goR J.number (.live s k0)).2 = some v → v = .mk 3 false 0 (numsOf tx) [] []) := N3.out (by
            unfold J.numV
            rw [if_neg]
            rintro ⟨_, _, h1, h2⟩
            have := hf1.2 ⟨h1, h2⟩
            cases this)
          clear hf1 hf2
          go_wp2_with fail
          refine bodyPost_ret (results_cell_row rfl _ _ w.heap.size 25 (flatA 3 false 0 tx) (0, 0) _ rfl (set6_heap HX3.out _ _ _ _ _ _) Tryd.underlying25 rfl size_json) rfl ?_
          exact dnum_end HN10.out.1 HB3.out HST.out 3 0 tx (by decide) rng_zero HV.out
        | true =>
          have hr := hf1.1 rfl
          have hn := hf2 rfl
          have HV : Hid (J.Rng n ∧ ∀ v, (goR J.number (.live s k0)).2 = some v → v = .mk 2 false n (numsOf (⟨#[]⟩ : ByteArray)) [] []) := ⟨by rw [hn]; exact hr, fun v hv => by
            rw [HNUM.out.1] at hv
            cases hv
            unfold J.numV
            unfold J.Rng at hr
            rw [if_pos ⟨rfl, HM.out, hr.1, hr.2⟩, hn]
            rfl⟩
          clear hf1 hf2 hr hn
          go_wp2_with fail
          refine bodyPost_ret (results_cell_row rfl _ _ w.heap.size 25 (flatA 2 false n ⟨#[]⟩) (0, 0) _ rfl (set6_heap HX3.out _ _ _ _ _ _) Tryd.underlying25 rfl size_json) rfl ?_
          exact dnum_end HN10.out.1 HB3.out HST.out 2 n ⟨#[]⟩ (by decide) HV.out.1 HV.out.2
end Go.Proofs.YtcfalgomcdmdhaaDoor
namespace Go.Proofs.YtcfalgomcdmdhaaDoor
open Go.RowKit Go.WideShapes Go.Joins

/-- a new row of bytes -/
structure U8P (ys : List Nat) (w : World) (e : Ending) (w' : World) : Prop where
  ex : ∃ (p : Option Addr) (m c : Nat), e = .returned (.slice p m c) ∧ m = ys.length ∧ BIn w' p ys ∧ (p = none → c = 0) ∧ Below w.heap.size w w'
theorem utf_lt {n : Nat} (h : n < 2000000) : ∀ c ∈ J.utf8 n, c < 256 := by
  unfold J.utf8
  intro c hc
  split at hc
  · simp only [List.mem_singleton] at hc; omega
  · split at hc
    · simp only [List.mem_cons, List.not_mem_nil, or_false] at hc; omega
    · split at hc
      · simp only [List.mem_cons, List.not_mem_nil, or_false] at hc; omega
      · simp only [List.mem_cons, List.not_mem_nil, or_false] at hc; omega
/-- a row that was just laid -/
theorem u8_laid {w : World} {ys : List Nat} (h : ∀ c ∈ ys, c < 256) : BIn (w.alloc (.cells (Bs ys).toArray 5)) (some ⟨w.heap.size, 0, none⟩) ys := by
  refine ⟨fun hp => ⟨w.heap.size, 0, rfl, fun i hi => ?_⟩, h⟩
  have hb := _root_.Go.heap_alloc_new w (.cells (Bs ys).toArray 5)
  rw [cell_of_block hb]
  simp [Bs, List.getD, List.getElem?_eq_getElem hi]
set_option maxHeartbeats 4000000 in
theorem utf8_any (N : Nat) (hN : N < 2000000) (w : World) : Calls Tryd.prog 95 #[.int .i64 (N : Int)] w fun e w' => U8P (J.utf8 N) w e w' := by
  have hlt := utf_lt hN
  by_cases q1 : N < 128
  · have e : J.utf8 N = [N] := by unfold J.utf8; rw [if_pos q1]
    have p1 : (N : Int) < 128 := by omega
    have HF : Hid (U8P (J.utf8 N) w (.returned (.slice (some ⟨w.heap.size, 0, none⟩) 1 1)) (w.alloc (.cells #[.int .u8 (N : Int)] 5))) := ⟨_, _, _, rfl, by rw [e]; rfl, by rw [e] at hlt ⊢; exact u8_laid hlt, (fun h => by cases h), below_new _ _⟩
    clear e hlt q1 hN
    go_enter Tryd.func95, Tryd.ntmps95
    go_wp2_with fail
    go_ret
    exact HF.out
  by_cases q2 : N < 2048
  · have e : J.utf8 N = [192 + N / 64, 128 + N % 64] := by unfold J.utf8; rw [if_neg q1, if_pos q2]
    have p1 : ¬ (N : Int) < 128 := by omega
    have p2 : (N : Int) < 2048 := by omega
    have HF : Hid (U8P (J.utf8 N) w (.returned (.slice (some ⟨w.heap.size, 0, none⟩) 2 2)) (w.alloc (.cells #[.int .u8 ((192 + N / 64 : Nat) : Int), .int .u8 ((128 + N % 64 : Nat) : Int)] 5))) := ⟨_, _, _, rfl, by rw [e]; rfl, by rw [e] at hlt ⊢; exact u8_laid hlt, (fun h => by cases h), below_new _ _⟩
    clear e hlt q1 hN q2
    go_enter Tryd.func95, Tryd.ntmps95
    go_wp2_with fail
    go_ret
    exact HF.out
  by_cases q3 : N < 65536
  · have e : J.utf8 N = [224 + N / 4096, 128 + N / 64 % 64, 128 + N % 64] := by unfold J.utf8; rw [if_neg q1, if_neg q2, if_pos q3]
    have p1 : ¬ (N : Int) < 128 := by omega
    have p2 : ¬ (N : Int) < 2048 := by omega
    have p3 : (N : Int) < 65536 := by omega
    have HF : Hid (U8P (J.utf8 N) w (.returned (.slice (some ⟨w.heap.size, 0, none⟩) 3 3)) (w.alloc (.cells #[.int .u8 ((224 + N / 4096 : Nat) : Int), .int .u8 ((128 + N / 64 % 64 : Nat) : Int), .int .u8 ((128 + N % 64 : Nat) : Int)] 5))) := ⟨_, _, _, rfl, by rw [e]; rfl, by rw [e] at hlt ⊢; exact u8_laid hlt, (fun h => by cases h), below_new _ _⟩
    clear e hlt q1 hN q2 q3
    go_enter Tryd.func95, Tryd.ntmps95
    go_wp2_with fail
    go_ret
    exact HF.out
  · have e : J.utf8 N = [240 + N / 262144, 128 + N / 4096 % 64, 128 + N / 64 % 64, 128 + N % 64] := by unfold J.utf8; rw [if_neg q1, if_neg q2, if_neg q3]
    have p1 : ¬ (N : Int) < 128 := by omega
    have p2 : ¬ (N : Int) < 2048 := by omega
    have p3 : ¬ (N : Int) < 65536 := by omega
    have p4 : (N : Int) < 2000000 := by omega
    have HF : Hid (U8P (J.utf8 N) w (.returned (.slice (some ⟨w.heap.size, 0, none⟩) 4 4)) (w.alloc (.cells #[.int .u8 ((240 + N / 262144 : Nat) : Int), .int .u8 ((128 + N / 4096 % 64 : Nat) : Int), .int .u8 ((128 + N / 64 % 64 : Nat) : Int), .int .u8 ((128 + N % 64 : Nat) : Int)] 5))) := ⟨_, _, _, rfl, by rw [e]; rfl, by rw [e] at hlt ⊢; exact u8_laid hlt, (fun h => by cases h), below_new _ _⟩
    clear e hlt q1 hN q2 q3
    go_enter Tryd.func95, Tryd.ntmps95
    go_wp2_with fail
    go_ret
    exact HF.out
theorem info5j : (Tryd.prog.info? 5).map (fun i => (i.zero, i.size, i.bytes)) = some (some (.int .u8 0), 1, 1) := by kernel_rfl
theorem own_binj {w : World} {base : Nat} {p : Option Addr} {m c n : Nat} {xs : List Nat} (h : w.ownsRow base 5 1 (.slice p m c) n (Bs xs)) (hn : n = xs.length) (hx : ∀ c ∈ xs, c < 256) : BIn w p xs ∧ m = xs.length := by
  subst hn
  rcases h.2 with ⟨hv, hn⟩ | ⟨g, cap, cur, hv, hb, hg, hle, hmax, hsz, htk⟩
  · simp at hv
    exact ⟨⟨fun h => by omega, hx⟩, by omega⟩
  · simp at hv
    obtain ⟨rfl, rfl, rfl⟩ := hv
    refine ⟨⟨fun _ => ⟨g, 0, rfl, fun i hi => ?_⟩, hx⟩, rfl⟩
    have := h.cells rfl i (.int .u8 (xs.getD i 0 : Nat)) (by simp [Bs, List.getD, List.getElem?_eq_getElem hi])
    rw [Go.WideShapes.add_plain] at this
    exact this
theorem wpList_append_bytesj (w : World) {ops : Array Oper} {rest : List Oper} {o : Oper} {a : Act} {Q : Exit → Act → World → Prop} (hgd : o.guard = none) (s x : Operand)
    (ho : o.op = .call { callee := .builtin .append, args := #[s, x], argTypes := #[62, 62] }) (base : Nat) (v : Value) (xs ys : List Nat) (p : Option Addr) (m c : Nat) (hs : a.eval s = v) (hx : a.eval x = .slice p m c) (hm : m = ys.length)
    (hown : w.ownsRow base 5 1 v xs.length (Bs xs)) (hin : BIn w p ys) (hp : p = none → c = 0) (hlen : xs.length + ys.length ≤ 140737488355328) (hbase : base ≤ w.heap.size)
    (h : ∀ v' w', w'.ownsRow base 5 1 v' (xs ++ ys).length (Bs (xs ++ ys)) → w.grownBy w' v.ownBlock → wpList Tryd.prog ops Q rest (a.put o.dst v') w') : wpList Tryd.prog ops Q (o :: rest) a w := by
  subst hm
  obtain ⟨i0, hi, hz0, hz1, hz2⟩ := info_parts info5j
  refine wpList_plain hgd fun K hK => ?_
  obtain ⟨v', w', hr, h2, h3⟩ := run_append_row (P := Tryd.prog) (w := w) Tryd.underlying62 hi hz0 hz1 hz2 base o.type v xs ys p c hown hin hp hlen hbase
  unfold Oper.wp execOp
  simp only [ho, resolve, invoke, builtin, Sem.run_bind, Sem.run_pure, Result.andThen_ok, List.map_toArray, List.map_cons, List.map_nil, hs, hx, hr]
  exact hK _ _ (h v' w' h2 h3)
end Go.Proofs.YtcfalgomcdmdhaaDoor
namespace Go.Proofs.YtcfalgomcdmdhaaDoor
open Go.RowKit Go.WideShapes Go.Joins

theorem tx_stop {ns : List (List Nat)} {n : Nat} {o : List Nat} {σ : RS} (ho : σ.ok) (h : σ.nx < 32) : goR (J.textN ns (n + 1) o) σ = (σ.refuse 160, none) := by
  unfold J.textN
  refine sw_stop ho fun s i hs hi => ?_
  subst hs
  have : (RS.live s i).pk < 32 := by
    rw [pk_in s i hi]
    have e : RS.nx (.live s i) = (((numsOf s).getD i 0 : Nat) : Int) := by simp only [RS.nx, hi, if_true]
    omega
  simp only [this, if_true]
theorem tx_quote_in {ns : List (List Nat)} {n : Nat} {o : List Nat} {σ : RS} (ho : σ.ok) (hc : σ.pk = 34) (h : o ∈ ns) : goR (J.textN ns (n + 1) o) σ = (σ.refuse 160, none) := by
  unfold J.textN
  refine sw_stop ho fun s i hs hi => ?_
  rw [hc]
  simp only [h, if_true, (by decide : ¬ 34 < 32), if_false]
theorem tx_quote_no {ns : List (List Nat)} {n : Nat} {o : List Nat} {σ : RS} (hc : σ.pk = 34) (h : o ∉ ns) : goR (J.textN ns (n + 1) o) σ = (σ.next, some o) := by
  unfold J.textN
  rw [sw_take (q := J.Rd.pure o) (by rw [hc]; decide) (by rw [hc]; simp only [h, if_true, (by decide : ¬ 34 < 32), if_false]), pure_next o (by rw [hc]; decide)]
theorem tx_esc {ns : List (List Nat)} {n : Nat} {o ys : List Nat} {σ : RS} (hc : σ.pk = 92) (hy : ∀ x, (goR J.escaped σ.next).2 = some x → ys = J.utf8 x) :
    goR (J.textN ns (n + 1) o) σ = goR (J.textN ns n (o ++ ys)) (goR J.escaped σ.next).1 := by
  rw [show J.textN ns (n + 1) o = J.sw _ _ from rfl, sw_take (q := J.escaped.then fun x => J.textN ns n (o ++ J.utf8 x)) (by rw [hc]; decide) (by rw [hc]; rfl)]
  exact goR_thenF (f := J.utf8) (q := fun y => J.textN ns n (o ++ y)) J.Good.escaped.okS hy
theorem tx_low {ns : List (List Nat)} {n c : Nat} {o : List Nat} {σ : RS} (hc : σ.pk = c) (h1 : ¬ c < 32) (h2 : c ≠ 34) (h3 : c ≠ 92) (h4 : c < 128) : goR (J.textN ns (n + 1) o) σ = goR (J.textN ns n (o ++ [c])) σ.next := by
  rw [show J.textN ns (n + 1) o = J.sw _ _ from rfl, sw_take (q := J.textN ns n (o ++ [c])) (by omega) (by simp only [hc, h1, h2, h3, h4, if_false, if_true])]
theorem tx_char {ns : List (List Nat)} {n c : Nat} {o ys : List Nat} {σ : RS} (hc : σ.pk = c) (h4 : ¬ c < 128) (hy : ∀ x, (goR J.char.seen σ).2 = some x → ys = x.2) :
    goR (J.textN ns (n + 1) o) σ = goR (J.textN ns n (o ++ ys)) (goR J.char.seen σ).1 := by
  have h1 : ¬ c < 32 := by omega
  have h2 : c ≠ 34 := by omega
  have h3 : c ≠ 92 := by omega
  rw [show J.textN ns (n + 1) o = J.sw _ _ from rfl, sw_go (q := J.char.seen.then fun p => J.textN ns n (o ++ p.2)) (by omega) (by simp only [hc, h1, h2, h3, h4, if_false])]
  exact goR_thenF (f := fun p : Unit × List Nat => p.2) (q := fun y => J.textN ns n (o ++ y)) (J.Good.char.seen).okS hy
theorem extract_nums (s : ByteArray) (i j : Nat) : numsOf (s.extract i j) = ((numsOf s).drop i).take (j - i) := by
  unfold numsOf
  rw [← List.map_drop, ← List.map_take]
  congr 1
  simp [ByteArray.data_extract, Array.toList_extract, List.extract_eq_take_drop]
/-- what was read is told too -/
theorem seen_go {α : Type} (p : J.Rd α) (σ : RS) : (goR p.seen σ).1 = (goR p σ).1 ∧ ∀ s i j, σ = .live s i → i ≤ s.size → (goR p σ).1 = .live s j → ∀ q, (goR p.seen σ).2 = some q → q.2 = numsOf (s.extract i j) := by
  cases σ with
  | dead s e => exact ⟨rfl, fun s i j h => by cases h⟩
  | live s i =>
    simp only [goR, J.Rd.seen]
    cases p ((numsOf s).drop i) with
    | ok v r =>
      refine ⟨rfl, fun s' i' j h hi hj q hq => ?_⟩
      cases h
      simp only [RS.live.injEq, true_and] at hj
      cases hq
      show ((numsOf s).drop i).take (((numsOf s).drop i).length - r.length) = _
      rw [extract_nums, rest_len]
      have e : s.size - i - r.length = j - i := by omega
      rw [e]
    | bad e r => exact ⟨rfl, fun s' i' j h hi hj => by cases hj⟩
    | out => exact ⟨rfl, fun s' i' j h hi hj => by cases hj⟩
/-- a character takes a byte at least -/
theorem char_adv {s : ByteArray} {i j : Nat} (h : (goR J.char (.live s i)).1 = .live s j) : i + 1 ≤ j ∧ j ≤ s.size := by
  simp only [goR] at h
  cases hv : J.char ((numsOf s).drop i) with
  | ok v r =>
    rw [hv] at h
    simp only [RS.live.injEq, true_and] at h
    unfold J.char at hv
    obtain ⟨c, m, h1, h2⟩ := J.then_ok hv
    have g1 := (J.Good.need 194 244)
    obtain ⟨a, ha⟩ := g1.okS _ _ _ h1
    have hne : a ≠ [] := by
      intro e
      subst e
      simp only [List.nil_append] at ha
      rw [ha] at h1
      cases m with
      | nil => simp [J.need, J.sw] at h1
      | cons d m =>
        simp only [J.need, J.sw] at h1
        by_cases hd : 194 ≤ d ∧ d ≤ 244
        · simp only [hd, and_self, if_true, J.Rd.pure, J.Res.ok.injEq] at h1
          have := congrArg List.length h1.2
          simp at this
        · simp only [hd, if_false] at h1; cases h1
    have hr : ∃ x, m = x ++ r := (J.Good.then (J.Good.need _ _) fun _ => J.Good.then (J.Good.iteB (J.Good.need _ _) (J.Good.pure _)) fun _ => J.Good.then (J.Good.iteB (J.Good.need _ _) (J.Good.pure _)) fun _ => J.Good.pure _).okS _ _ _ h2
    obtain ⟨x, rfl⟩ := hr
    have hl := congrArg List.length ha
    rw [rest_len] at hl
    simp only [List.length_append] at hl
    have : 0 < a.length := List.length_pos_iff.2 hne
    omega
  | bad e r => rw [hv] at h; cases h
  | out => rw [hv] at h; cases h
/-- the reader's own text, at a place -/
theorem stays {α : Type} (p : J.Rd α) {s : ByteArray} {i : Nat} : (∃ j, (goR p (.live s i)).1 = .live s j) ∨ ∃ t e, (goR p (.live s i)).1 = .dead t e := by
  simp only [goR]
  cases p ((numsOf s).drop i) with
  | ok v r => exact .inl ⟨_, rfl⟩
  | bad e r => exact .inr ⟨_, _, rfl⟩
  | out => exact .inr ⟨_, _, rfl⟩
set_option maxHeartbeats 400000 in
theorem fail_stays (b : Nat) (S : ByteArray) (dp : Nat) (σ : RS) (k : Nat) (I A : Int) (hA : ∀ s i, σ = .live s i → A = (i : Int)) (hk : k ≠ 0 ∧ k < 65536) (w : World) (h : DIn w b S dp σ) (hI : w.cell? ⟨b, 1, none⟩ = some (.int .i64 I)) :
    Calls Tryd.prog 40 #[rp b, .int .i64 (k : Int), .int .i64 A] w fun e w' => e = .returned (.tuple #[]) ∧ DIn w' b S dp (σ.refuse k) ∧ w.grownBy w' (some b) ∧ w'.cell? ⟨b, 1, none⟩ = some (.int .i64 I) := by
  obtain ⟨i, a, h1, h2, hb, h3, h4⟩ := h.ex
  have hok := h.ok
  have hsz := h.sz
  have hdp := h.dpl
  have c2 : w.cell? ⟨b, 2, none⟩ = some (.int .i64 (σ.e : Int)) := by rw [cell_of_block hb]; rfl
  have HI : Hid (w.cell? ⟨b, 1, none⟩ = some (.int .i64 I)) := hI
  cases σ with
  | dead s e =>
    simp only [RS.e] at c2
    have he : ((e : Int) == 0) = false := by
      have := hok.1
      simpa using fun x : (e : Int) = 0 => this (by omega)
    have HD : Hid (DIn w b S dp (.dead s e)) := h
    clear h h1 h2 hb h3 h4 hok hA hk hsz hdp hI
    unfold rp
    go_enter Tryd.func40, Tryd.ntmps40
    go_wp2
    go_end0
    exact ⟨rfl, HD.out, grown_refl _ _, HI.out⟩
  | live s j =>
    obtain ⟨rfl, rfl⟩ := h3 s j rfl
    simp only [RS.e] at c2
    rw [show (((0 : Nat) : Int)) = 0 from rfl] at c2
    have f2 : w.frozen? ⟨b, 2, none⟩ = false := unfrozen_of_block hb 2
    have f3 : w.frozen? ⟨b, 3, none⟩ = false := unfrozen_of_block hb 3
    have c3 : w.cell? ⟨b, 3, none⟩ = some (.int .i64 (a : Int)) := by rw [cell_of_block hb]; rfl
    have hjs : i ≤ s.size := hok
    have hblk := block_setCell (i := 3) (block_setCell (i := 2) hb (.int .i64 (k : Int))) (.int .i64 A)
    have hE : DIn ((w.setCell ⟨b, 2, none⟩ (.int .i64 (k : Int))).setCell ⟨b, 3, none⟩ (.int .i64 A)) b s dp ((RS.live s i).refuse k) := by
      rw [hA s i rfl]
      refine ⟨hk, hsz, hdp, i, i, h1, hjs, block_setCell (i := 3) (block_setCell (i := 2) hb _) _, (fun s' j' e => by cases e), (fun s' e' e => by cases e; exact cutS_size s hjs)⟩
    have HE : Hid (DIn ((w.setCell ⟨b, 2, none⟩ (.int .i64 (k : Int))).setCell ⟨b, 3, none⟩ (.int .i64 A)) b s dp ((RS.live s i).refuse k)) := hE
    have hI2 : ((w.setCell ⟨b, 2, none⟩ (.int .i64 (k : Int))).setCell ⟨b, 3, none⟩ (.int .i64 A)).cell? ⟨b, 1, none⟩ = some (.int .i64 I) := by
      rw [cell_of_block hb] at hI
      rw [cell_of_block hblk]
      exact hI
    have HI2 : Hid (((w.setCell ⟨b, 2, none⟩ (.int .i64 (k : Int))).setCell ⟨b, 3, none⟩ (.int .i64 A)).cell? ⟨b, 1, none⟩ = some (.int .i64 I)) := hI2
    clear h h1 h2 hb h3 h4 hok hA hk hsz hdp hE hjs hblk hI hI2
    unfold rp
    go_enter Tryd.func40, Tryd.ntmps40
    go_wp2
    go_end0
    exact ⟨rfl, HE.out, grown_trans (grown_set _ _ _ _) (grown_set _ _ _ _), HI2.out⟩
/-- behind a fault the reader may go one byte on -/
theorem DIn.over {w : World} {b : Nat} {S t : ByteArray} {dp e i : Nat} (h : DIn w b S dp (.dead t e)) (his : i ≤ S.size) : DIn (w.setCell ⟨b, 1, none⟩ (.int .i64 ((i : Int) + 1))) b S dp (.dead t e) := by
  obtain ⟨i', a, h1, h2, hb, h3, h4⟩ := h.ex
  refine ⟨h.ok, h.sz, h.dpl, i + 1, a, by omega, h2, ?_, (fun s j e => by cases e), h4⟩
  have := block_setCell (i := 1) hb (.int .i64 ((i : Int) + 1))
  rw [Int.natCast_add]
  exact this
end Go.Proofs.YtcfalgomcdmdhaaDoor
