import Derived.Test.YtcfalgomcdmdhaaDoorJDInt
import Derived.Test.YtcfalgomcdmdhaaDoorJDCh
import Derived.Deep.Cut
import Derived.Lib.AppendStr
namespace Go.Proofs.YtcfalgomcdmdhaaDoor
open Go.RowKit Go.WideShapes Go.Joins
theorem foldU_snoc (acc : Nat) (l : List UInt8) (c : UInt8) : foldU acc (l ++ [c]) = 10 * foldU acc l + (c.toNat - 48) := by
  simp only [foldU, List.foldl_append, List.foldl_cons, List.foldl_nil]
theorem foldU_app (acc : Nat) (l m : List UInt8) : foldU acc (l ++ m) = foldU (foldU acc l) m := by
  simp only [foldU, List.foldl_append]
theorem foldU_take {l : List UInt8} {k : Nat} : foldU 0 (l.take k) ≤ foldU 0 l := by
  have := foldU_app 0 (l.take k) (l.drop k)
  rw [List.take_append_drop] at this
  rw [this]
  exact foldU_le _ _
theorem foldU_next {l : List UInt8} {k : Nat} (h : k < l.length) : foldU 0 (l.take (k + 1)) = 10 * foldU 0 (l.take k) + (l[k].toNat - 48) := by
  rw [List.take_succ_eq_append_getElem h, foldU_snoc]
theorem nums_u {D : ByteArray} {ds : List UInt8} (h : D.data.toList = ds) {k : Nat} (hk : k < ds.length) : (numsOf D).getD k 0 = ds[k].toNat := by
  subst h
  rw [toNat_map, List.getD_eq_getElem?_getD, List.getElem?_map, List.getElem?_eq_getElem hk]
  rfl
theorem size_u {D : ByteArray} {ds : List UInt8} (h : D.data.toList = ds) : D.size = ds.length := by
  subst h; show D.data.size = _; rw [Array.length_toList]
inductive IntI (ds : List UInt8) (w : World) (s7 s8 : Value) (wr : World) : Prop where
  | intro (k : Nat) (hk : k ≤ ds.length) (h8 : s8 = .int .i64 (k : Int)) (N : Int) (h7 : s7 = .int .i64 N) (hN : N = -(foldU 0 (ds.take k) : Int)) (hb : Below w.heap.size w wr)
structure IntP (s : ByteArray) (w : World) (e : Ending) (w' : World) : Prop where
  ex : ∃ (n : Int) (f : Bool), e = .returned (.tuple #[.int .i64 n, .bool f]) ∧ (f = true ↔ J.Rng (J.intOf (numsOf s))) ∧ (f = true → n = J.intOf (numsOf s)) ∧ Below w.heap.size w w'
set_option maxHeartbeats 4000000 in
set_option maxRecDepth 8000 in
theorem dInt_any (s : ByteArray) (hs : IntIs s) (hz : s.size ≤ 20000) (w : World) : Calls Tryd.prog 97 #[.string s] w fun e w' => IntP s w e w' := by
  obtain ⟨m, ds, hd, hne, h45, hs, hfit, hI⟩ := hs.ex
  have hdl : 0 < ds.length := List.length_pos_iff.2 hne
  cases m with
  | false =>
    simp only [Bool.false_eq_true, if_false] at hs hfit hI
    have hsz : s.size = ds.length := size_u hs
    have hc0 : (numsOf s).getD 0 0 ≠ 45 := by
      rw [nums_u hs hdl]
      intro e
      refine h45 ?_
      rw [List.head?_eq_getElem?, List.getElem?_eq_getElem hdl]
      exact congrArg some (UInt8.toNat_inj.1 e)
    have hx0 := fun w' => str_at s 0 (by omega) w'
    obtain ⟨C0, hC0⟩ : ∃ C : Int, (((numsOf s).getD 0 0 : Nat) : Int) = C := ⟨_, rfl⟩
    rw [hC0] at hx0
    simp only [show (((0 : Nat) : Int)) = 0 from rfl] at hx0
    have hcb : (C0 == 45) = false := by simpa using fun e : C0 = 45 => hc0 (by omega)
    have HDS : Hid (s.size = ds.length) := hsz
    have hDt : s.toList = ds := by rw [Lib.toList_data]; exact hs
    have hLt : mostS.toList = mostS.data.toList := Lib.toList_data _
    have HR : Hid (J.Rng (J.intOf (numsOf s)) → foldU 0 ds ≤ 9223372036854775808 ∧ J.intOf (numsOf s) = (foldU 0 ds : Int)) := fun hr => by
      unfold J.Rng at hr
      rw [hI] at hr
      exact ⟨by omega, hI⟩
    have NO : Hid (¬ J.Rng (J.intOf (numsOf s)) → IntP s w (.returned (.tuple #[.int .i64 0, .bool false])) w) := fun hr => ⟨0, false, rfl, ⟨fun e => (by cases e), fun e => absurd e hr⟩, fun e => (by cases e), Below.refl _ _⟩
    have HX : Hid (∀ k (hk : k < ds.length) w', (Instr.index 9 (.string s) (.int .i64 (k : Int))).run Tryd.prog w' = .ok (.int .u8 (ds[k].toNat : Int)) w' ∧ 48 ≤ ds[k].toNat ∧ ds[k].toNat ≤ 57) := fun k hk w' => by
      have := str_at s k (by omega) w'
      rw [nums_u hs hk] at this
      exact ⟨this, hd _ (List.getElem_mem _)⟩
    have HZ : Hid (ds.length ≤ 20000) := by show _ ≤ _; omega
    obtain ⟨G, hG⟩ : ∃ G : Bool, (!(Op.bytesLess s.toList mostS.toList || s.toList == mostS.toList)) = G := ⟨_, rfl⟩
    rw [hDt, hLt] at hG
    rw [hG] at hfit
    rw [← hDt, ← hLt] at hG
    have HF : Hid ((19 < ds.length ∨ ds.length = 19 ∧ G = true) ↔ ¬ J.Rng (J.intOf (numsOf s))) := hfit
    have hDI : (s.size : Int) = (ds.length : Int) := by omega
    have hG : (!Op.bytesLess s.toList [57, 50, 50, 51, 51, 55, 50, 48, 51, 54, 56, 53, 52, 55, 55, 53, 56, 48, 55] && !(s.toList == [57, 50, 50, 51, 51, 55, 50, 48, 51, 54, 56, 53, 52, 55, 55, 53, 56, 48, 55])) = G := by rw [← Bool.not_or, show ([57, 50, 50, 51, 51, 55, 50, 48, 51, 54, 56, 53, 52, 55, 55, 53, 56, 48, 55] : List UInt8) = mostS.toList by rw [Lib.toList_data]; rfl]; exact hG
    clear hs hfit hI hsz hDt hLt hne h45 hz hd hc0 hC0
    by_cases hA : 19 < ds.length
    · have q1 : (19 : Int) < (s.size : Int) := by omega
      have HNO : Hid (IntP s w (.returned (.tuple #[.int .i64 0, .bool false])) w) := NO.out (HF.out.1 (.inl hA))
      clear hA hG hDI hdl
      go_enter Tryd.func97, Tryd.ntmps97
      go_wp2_with fail
      go_ret2
      exact HNO.out
    have q1 : ¬ (19 : Int) < (s.size : Int) := by omega
    by_cases hB : ds.length = 19
    · have q2 : ((s.size : Int) == 19) = true := by simp; omega
      cases G with
      | true =>
        have HNO : Hid (IntP s w (.returned (.tuple #[.int .i64 0, .bool false])) w) := NO.out (HF.out.1 (.inr ⟨hB, rfl⟩))
        clear hA hB hDI hdl
        go_enter Tryd.func97, Tryd.ntmps97
        go_wp2_with fail
        go_ret2
        exact HNO.out
      | false =>
        have HRN : Hid (J.Rng (J.intOf (numsOf s))) := by
          refine Classical.not_not.1 fun e => ?_
          rcases HF.out.2 e with h | ⟨_, h⟩
          · exact hA h
          · cases h
        clear hA hB hDI hdl
        go_enter Tryd.func97, Tryd.ntmps97
        go_wp2_with fail
        go_loopw [7, 8] (fun s7 s8 wr => IntI ds w s7 s8 wr) (fun _ s8 _ => ds.length - (intOf s8).toNat)
        case atStart => exact ⟨0, Nat.zero_le _, rfl, 0, rfl, rfl, Below.refl _ _⟩
        case round =>
          obtain ⟨k, hk, rfl, N, rfl, hN, hb⟩ := hrel
          by_cases hlt : k < ds.length
          · have hkI : (k : Int) < (s.size : Int) := by have := HDS.out; omega
            have hk0 : (0 : Int) ≤ (k : Int) := by omega
            obtain ⟨_, k1, k2⟩ := HX.out k hlt wr
            have hx := fun w' => (HX.out k hlt w').1
            have hnx := foldU_next hlt
            have hle := foldU_take (l := ds) (k := k + 1)
            have hmx := (HR.out HRN.out).1
            obtain ⟨C, hC⟩ : ∃ C : Int, ((ds[k].toNat : Nat) : Int) = C := ⟨_, rfl⟩
            rw [hC] at hx
            have k3 : (48 : Int) ≤ C := by omega
            have k4 : C ≤ 57 := by omega
            have n1 : N ≤ 0 := by omega
            have n2 : -9223372036854775808 ≤ 10 * N - (C - 48) := by omega
            have HN : Hid (10 * N - (C - 48) = -(foldU 0 (ds.take (k + 1)) : Int) ∧ k < ds.length ∧ Below w.heap.size w wr) := ⟨by omega, hlt, hb⟩
            have n3 : -9223372036854775808 ≤ 10 * N := by omega
            have wc : wrap64 (C - 48) = C - 48 := by unfold wrap64; omega
            have HZI : Hid ((k : Int) < 20000) := by have := HZ.out; show _ < _; omega
            have kz : (k : Int) < 20000 := HZI.out
            clear hk hb hN hnx hle hmx k1 k2
            go_wp2_with fail
            go_roundw
            case rel =>
              have H := HN.out
              exact ⟨k + 1, H.2.1, by rw [Int.natCast_add]; rfl, _, rfl, H.1, H.2.2⟩
            case measure => have H := HN.out; simp [intOf]; omega
          · obtain rfl : k = ds.length := by omega
            have hkI : ¬ ((ds.length : Nat) : Int) < (s.size : Int) := by have := HDS.out; omega
            have hF := HR.out HRN.out
            rw [List.take_length] at hN
            have HBW : Hid (Below w.heap.size w wr) := hb
            have HNN : Hid (N = -(foldU 0 ds : Int)) := hN
            have n1 : -9223372036854775808 ≤ N := by omega
            have n2 : N ≤ 0 := by omega
            have n3 : -N ≤ 9223372036854775807 := by have := HR.out HRN.out; have h2 := HRN.out; unfold J.Rng at h2; omega
            clear hk hb hN hF hlt
            go_wp2_with fail
            go_ret2
            have H := HR.out HRN.out
            have HNv := HNN.out
            refine ⟨_, true, rfl, ⟨fun _ => HRN.out, fun _ => rfl⟩, fun _ => ?_, HBW.out⟩
            rw [H.2]
            omega
    · have q2 : ((s.size : Int) == 19) = false := by simp; omega
      have HRN : Hid (J.Rng (J.intOf (numsOf s))) := by
        refine Classical.not_not.1 fun e => ?_
        rcases HF.out.2 e with h | ⟨h, _⟩
        · exact hA h
        · exact hB h
      clear hA hB hDI hdl hG
      go_enter Tryd.func97, Tryd.ntmps97
      go_wp2_with fail
      go_loopw [7, 8] (fun s7 s8 wr => IntI ds w s7 s8 wr) (fun _ s8 _ => ds.length - (intOf s8).toNat)
      case atStart => exact ⟨0, Nat.zero_le _, rfl, 0, rfl, rfl, Below.refl _ _⟩
      case round =>
        obtain ⟨k, hk, rfl, N, rfl, hN, hb⟩ := hrel
        by_cases hlt : k < ds.length
        · have hkI : (k : Int) < (s.size : Int) := by have := HDS.out; omega
          have hk0 : (0 : Int) ≤ (k : Int) := by omega
          obtain ⟨_, k1, k2⟩ := HX.out k hlt wr
          have hx := fun w' => (HX.out k hlt w').1
          have hnx := foldU_next hlt
          have hle := foldU_take (l := ds) (k := k + 1)
          have hmx := (HR.out HRN.out).1
          obtain ⟨C, hC⟩ : ∃ C : Int, ((ds[k].toNat : Nat) : Int) = C := ⟨_, rfl⟩
          rw [hC] at hx
          have k3 : (48 : Int) ≤ C := by omega
          have k4 : C ≤ 57 := by omega
          have n1 : N ≤ 0 := by omega
          have n2 : -9223372036854775808 ≤ 10 * N - (C - 48) := by omega
          have HN : Hid (10 * N - (C - 48) = -(foldU 0 (ds.take (k + 1)) : Int) ∧ k < ds.length ∧ Below w.heap.size w wr) := ⟨by omega, hlt, hb⟩
          have n3 : -9223372036854775808 ≤ 10 * N := by omega
          have wc : wrap64 (C - 48) = C - 48 := by unfold wrap64; omega
          have HZI : Hid ((k : Int) < 20000) := by have := HZ.out; show _ < _; omega
          have kz : (k : Int) < 20000 := HZI.out
          clear hk hb hN hnx hle hmx k1 k2
          go_wp2_with fail
          go_roundw
          case rel =>
            have H := HN.out
            exact ⟨k + 1, H.2.1, by rw [Int.natCast_add]; rfl, _, rfl, H.1, H.2.2⟩
          case measure => have H := HN.out; simp [intOf]; omega
        · obtain rfl : k = ds.length := by omega
          have hkI : ¬ ((ds.length : Nat) : Int) < (s.size : Int) := by have := HDS.out; omega
          have hF := HR.out HRN.out
          rw [List.take_length] at hN
          have HBW : Hid (Below w.heap.size w wr) := hb
          have HNN : Hid (N = -(foldU 0 ds : Int)) := hN
          have n1 : -9223372036854775808 ≤ N := by omega
          have n2 : N ≤ 0 := by omega
          have n3 : -N ≤ 9223372036854775807 := by have := HR.out HRN.out; have h2 := HRN.out; unfold J.Rng at h2; omega
          clear hk hb hN hF hlt
          go_wp2_with fail
          go_ret2
          have H := HR.out HRN.out
          have HNv := HNN.out
          refine ⟨_, true, rfl, ⟨fun _ => HRN.out, fun _ => rfl⟩, fun _ => ?_, HBW.out⟩
          rw [H.2]
          omega
  | true =>
    simp only [if_true] at hs hfit hI
    have hsz : s.size = ds.length + 1 := by rw [size_u hs]; rfl
    have hc0 : (numsOf s).getD 0 0 = 45 := by rw [nums_u hs (by simp)]; rfl
    have hx0 := fun w' => str_at s 0 (by omega) w'
    rw [hc0] at hx0
    simp only [show (((0 : Nat) : Int)) = 0 from rfl, show (((45 : Nat) : Int)) = 45 from rfl] at hx0
    obtain ⟨D, hD⟩ : ∃ D, s.extract 1 s.size = D := ⟨_, rfl⟩
    have hDd : D.data.toList = ds := by
      rw [← hD]
      simp only [ByteArray.data_extract, Array.toList_extract, List.extract_eq_take_drop]
      rw [hs, List.drop_succ_cons, List.drop_zero, List.take_of_length_le (by omega)]
    have hDs : D.size = ds.length := size_u hDd
    have hx1 : ∀ w', (Instr.slice 9 (.string s) (some (.int .i64 1)) none none).run Tryd.prog w' = .ok (.string D) w' := fun w' => by
      have := run_slice_string_l w' 9 s Tryd.underlying9 .i64 1 (by omega) (by omega)
      rw [show (1 : Int).toNat = 1 from rfl, hD] at this
      exact this
    have HDS : Hid (D.size = ds.length) := hDs
    have hDt : D.toList = ds := by rw [Lib.toList_data]; exact hDd
    have hLt : moreS.toList = moreS.data.toList := Lib.toList_data _
    have HR : Hid (J.Rng (J.intOf (numsOf s)) → foldU 0 ds ≤ 9223372036854775808 ∧ J.intOf (numsOf s) = -(foldU 0 ds : Int)) := fun hr => by
      unfold J.Rng at hr
      rw [hI] at hr
      exact ⟨by omega, hI⟩
    have NO : Hid (¬ J.Rng (J.intOf (numsOf s)) → IntP s w (.returned (.tuple #[.int .i64 0, .bool false])) w) := fun hr => ⟨0, false, rfl, ⟨fun e => (by cases e), fun e => absurd e hr⟩, fun e => (by cases e), Below.refl _ _⟩
    have HX : Hid (∀ k (hk : k < ds.length) w', (Instr.index 9 (.string D) (.int .i64 (k : Int))).run Tryd.prog w' = .ok (.int .u8 (ds[k].toNat : Int)) w' ∧ 48 ≤ ds[k].toNat ∧ ds[k].toNat ≤ 57) := fun k hk w' => by
      have := str_at D k (by omega) w'
      rw [nums_u hDd hk] at this
      exact ⟨this, hd _ (List.getElem_mem _)⟩
    have HZ : Hid (ds.length ≤ 20000) := by show _ ≤ _; omega
    obtain ⟨G, hG⟩ : ∃ G : Bool, (!(Op.bytesLess D.toList moreS.toList || D.toList == moreS.toList)) = G := ⟨_, rfl⟩
    rw [hDt, hLt] at hG
    rw [hG] at hfit
    rw [← hDt, ← hLt] at hG
    have HF : Hid ((19 < ds.length ∨ ds.length = 19 ∧ G = true) ↔ ¬ J.Rng (J.intOf (numsOf s))) := hfit
    have hDI : (D.size : Int) = (ds.length : Int) := by omega
    have hG : (!Op.bytesLess D.toList [57, 50, 50, 51, 51, 55, 50, 48, 51, 54, 56, 53, 52, 55, 55, 53, 56, 48, 56] && !(D.toList == [57, 50, 50, 51, 51, 55, 50, 48, 51, 54, 56, 53, 52, 55, 55, 53, 56, 48, 56])) = G := by rw [← Bool.not_or, show ([57, 50, 50, 51, 51, 55, 50, 48, 51, 54, 56, 53, 52, 55, 55, 53, 56, 48, 56] : List UInt8) = moreS.toList by rw [Lib.toList_data]; rfl]; exact hG
    clear hs hfit hI hsz hDt hLt hne h45 hz hd hc0 hD hDd hDs
    by_cases hA : 19 < ds.length
    · have q1 : (19 : Int) < (D.size : Int) := by omega
      have HNO : Hid (IntP s w (.returned (.tuple #[.int .i64 0, .bool false])) w) := NO.out (HF.out.1 (.inl hA))
      clear hA hG hDI hdl
      go_enter Tryd.func97, Tryd.ntmps97
      go_wp2_with fail
      go_ret2
      exact HNO.out
    have q1 : ¬ (19 : Int) < (D.size : Int) := by omega
    by_cases hB : ds.length = 19
    · have q2 : ((D.size : Int) == 19) = true := by simp; omega
      cases G with
      | true =>
        have HNO : Hid (IntP s w (.returned (.tuple #[.int .i64 0, .bool false])) w) := NO.out (HF.out.1 (.inr ⟨hB, rfl⟩))
        clear hA hB hDI hdl
        go_enter Tryd.func97, Tryd.ntmps97
        go_wp2_with fail
        go_ret2
        exact HNO.out
      | false =>
        have HRN : Hid (J.Rng (J.intOf (numsOf s))) := by
          refine Classical.not_not.1 fun e => ?_
          rcases HF.out.2 e with h | ⟨_, h⟩
          · exact hA h
          · cases h
        clear hA hB hDI hdl
        go_enter Tryd.func97, Tryd.ntmps97
        go_wp2_with fail
        go_loopw [7, 8] (fun s7 s8 wr => IntI ds w s7 s8 wr) (fun _ s8 _ => ds.length - (intOf s8).toNat)
        case atStart => exact ⟨0, Nat.zero_le _, rfl, 0, rfl, rfl, Below.refl _ _⟩
        case round =>
          obtain ⟨k, hk, rfl, N, rfl, hN, hb⟩ := hrel
          by_cases hlt : k < ds.length
          · have hkI : (k : Int) < (D.size : Int) := by have := HDS.out; omega
            have hk0 : (0 : Int) ≤ (k : Int) := by omega
            obtain ⟨_, k1, k2⟩ := HX.out k hlt wr
            have hx := fun w' => (HX.out k hlt w').1
            have hnx := foldU_next hlt
            have hle := foldU_take (l := ds) (k := k + 1)
            have hmx := (HR.out HRN.out).1
            obtain ⟨C, hC⟩ : ∃ C : Int, ((ds[k].toNat : Nat) : Int) = C := ⟨_, rfl⟩
            rw [hC] at hx
            have k3 : (48 : Int) ≤ C := by omega
            have k4 : C ≤ 57 := by omega
            have n1 : N ≤ 0 := by omega
            have n2 : -9223372036854775808 ≤ 10 * N - (C - 48) := by omega
            have HN : Hid (10 * N - (C - 48) = -(foldU 0 (ds.take (k + 1)) : Int) ∧ k < ds.length ∧ Below w.heap.size w wr) := ⟨by omega, hlt, hb⟩
            have n3 : -9223372036854775808 ≤ 10 * N := by omega
            have wc : wrap64 (C - 48) = C - 48 := by unfold wrap64; omega
            have HZI : Hid ((k : Int) < 20000) := by have := HZ.out; show _ < _; omega
            have kz : (k : Int) < 20000 := HZI.out
            clear hk hb hN hnx hle hmx k1 k2
            go_wp2_with fail
            go_roundw
            case rel =>
              have H := HN.out
              exact ⟨k + 1, H.2.1, by rw [Int.natCast_add]; rfl, _, rfl, H.1, H.2.2⟩
            case measure => have H := HN.out; simp [intOf]; omega
          · obtain rfl : k = ds.length := by omega
            have hkI : ¬ ((ds.length : Nat) : Int) < (D.size : Int) := by have := HDS.out; omega
            have hF := HR.out HRN.out
            rw [List.take_length] at hN
            have HBW : Hid (Below w.heap.size w wr) := hb
            have HNN : Hid (N = -(foldU 0 ds : Int)) := hN
            have n1 : -9223372036854775808 ≤ N := by omega
            have n2 : N ≤ 0 := by omega
            skip
            clear hk hb hN hF hlt
            go_wp2_with fail
            go_ret2
            have H := HR.out HRN.out
            have HNv := HNN.out
            refine ⟨_, true, rfl, ⟨fun _ => HRN.out, fun _ => rfl⟩, fun _ => ?_, HBW.out⟩
            rw [H.2]
            omega
    · have q2 : ((D.size : Int) == 19) = false := by simp; omega
      have HRN : Hid (J.Rng (J.intOf (numsOf s))) := by
        refine Classical.not_not.1 fun e => ?_
        rcases HF.out.2 e with h | ⟨h, _⟩
        · exact hA h
        · exact hB h
      clear hA hB hDI hdl hG
      go_enter Tryd.func97, Tryd.ntmps97
      go_wp2_with fail
      go_loopw [7, 8] (fun s7 s8 wr => IntI ds w s7 s8 wr) (fun _ s8 _ => ds.length - (intOf s8).toNat)
      case atStart => exact ⟨0, Nat.zero_le _, rfl, 0, rfl, rfl, Below.refl _ _⟩
      case round =>
        obtain ⟨k, hk, rfl, N, rfl, hN, hb⟩ := hrel
        by_cases hlt : k < ds.length
        · have hkI : (k : Int) < (D.size : Int) := by have := HDS.out; omega
          have hk0 : (0 : Int) ≤ (k : Int) := by omega
          obtain ⟨_, k1, k2⟩ := HX.out k hlt wr
          have hx := fun w' => (HX.out k hlt w').1
          have hnx := foldU_next hlt
          have hle := foldU_take (l := ds) (k := k + 1)
          have hmx := (HR.out HRN.out).1
          obtain ⟨C, hC⟩ : ∃ C : Int, ((ds[k].toNat : Nat) : Int) = C := ⟨_, rfl⟩
          rw [hC] at hx
          have k3 : (48 : Int) ≤ C := by omega
          have k4 : C ≤ 57 := by omega
          have n1 : N ≤ 0 := by omega
          have n2 : -9223372036854775808 ≤ 10 * N - (C - 48) := by omega
          have HN : Hid (10 * N - (C - 48) = -(foldU 0 (ds.take (k + 1)) : Int) ∧ k < ds.length ∧ Below w.heap.size w wr) := ⟨by omega, hlt, hb⟩
          have n3 : -9223372036854775808 ≤ 10 * N := by omega
          have wc : wrap64 (C - 48) = C - 48 := by unfold wrap64; omega
          have HZI : Hid ((k : Int) < 20000) := by have := HZ.out; show _ < _; omega
          have kz : (k : Int) < 20000 := HZI.out
          clear hk hb hN hnx hle hmx k1 k2
          go_wp2_with fail
          go_roundw
          case rel =>
            have H := HN.out
            exact ⟨k + 1, H.2.1, by rw [Int.natCast_add]; rfl, _, rfl, H.1, H.2.2⟩
          case measure => have H := HN.out; simp [intOf]; omega
        · obtain rfl : k = ds.length := by omega
          have hkI : ¬ ((ds.length : Nat) : Int) < (D.size : Int) := by have := HDS.out; omega
          have hF := HR.out HRN.out
          rw [List.take_length] at hN
          have HBW : Hid (Below w.heap.size w wr) := hb
          have HNN : Hid (N = -(foldU 0 ds : Int)) := hN
          have n1 : -9223372036854775808 ≤ N := by omega
          have n2 : N ≤ 0 := by omega
          skip
          clear hk hb hN hF hlt
          go_wp2_with fail
          go_ret2
          have H := HR.out HRN.out
          have HNv := HNN.out
          refine ⟨_, true, rfl, ⟨fun _ => HRN.out, fun _ => rfl⟩, fun _ => ?_, HBW.out⟩
          rw [H.2]
          omega
end Go.Proofs.YtcfalgomcdmdhaaDoor
namespace Go.Proofs.YtcfalgomcdmdhaaDoor
open Go.RowKit Go.WideShapes Go.Joins
structure NI (b : Nat) (S : ByteArray) (dp : Nat) (w : World) (σ : RS) (wc : World) : Prop where
  r : DIn wc b S dp σ
  x : wc.heap[w.heap.size]? = some jbox
  g : w.grownBy wc (some b)
  lt : b < w.heap.size
theorem NI.step {b : Nat} {S : ByteArray} {dp : Nat} {w wc w' : World} {σ σ' : RS} (h : NI b S dp w σ wc) (hr : DIn w' b S dp σ') (hg : wc.grownBy w' (some b)) : NI b S dp w σ' w' :=
  ⟨hr, box_grown h.x hg (by have := h.lt; omega), grown_trans h.g hg, h.lt⟩
theorem ni_may {b : Nat} {S : ByteArray} {dp x : Nat} (hl : x ≤ 255) {w wc : World} {σ : RS} (h : NI b S dp w σ wc) :
    Calls Tryd.prog 92 #[rp b, .int .u8 (x : Int)] wc fun e w' => ∃ B : Bool, e = .returned (.bool B) ∧ Gives (J.may x) σ B ∧ NI b S dp w (goR (J.may x) σ).1 w' :=
  (may_any b S dp x hl σ wc h.r).mono fun _ _ ⟨B, he, _, hv, hr, hg⟩ => ⟨B, he, fun v hv' => (hv v hv').symm, h.step hr hg⟩
theorem ni_digits {b : Nat} {S : ByteArray} {dp : Nat} {w wc : World} {σ : RS} (h : NI b S dp w σ wc) :
    Calls Tryd.prog 96 #[rp b] wc fun e w' => e = .returned (.tuple #[]) ∧ NI b S dp w (goR J.digits σ).1 w' :=
  (ddigits_any b S dp σ wc h.r).mono fun _ _ ⟨he, hr, hg⟩ => ⟨he, h.step hr hg⟩
theorem ite_dig {α : Type} {c : Bool} {q : J.Rd α} {σ σ' : RS} (h : (if c then (goR J.digits σ).1 else σ) = σ') : goR ((if c then J.digits else J.Rd.pure ()).then fun _ => q) σ = goR q σ' := by
  cases c with
  | false => simp only [Bool.false_eq_true, if_false] at h ⊢; rw [pure_then, h]
  | true => simp only [if_true] at h ⊢; rw [unit_then J.Good.digits, h]
theorem ite_dig' {α : Type} {c : Bool} {q : J.Rd α} {σ σ' : RS} (h : (if c then σ else (goR J.digits σ).1) = σ') : goR ((if c then J.Rd.pure () else J.digits).then fun _ => q) σ = goR q σ' := by
  cases c with
  | true => simp only [if_true] at h ⊢; rw [pure_then, h]
  | false => simp only [Bool.false_eq_true, if_false] at h ⊢; rw [unit_then J.Good.digits, h]
theorem ite_may {α : Type} {x : Nat} {c E : Bool} {r : Bool → J.Rd α} {σ σ' : RS} (h : if c then E = true ∧ σ = σ' else Gives (J.may x) σ E ∧ (goR (J.may x) σ).1 = σ') : goR ((if c then J.Rd.pure true else J.may x).then r) σ = goR (r E) σ' := by
  cases c with
  | true => simp only [if_true] at h ⊢; rw [pure_then, h.1, h.2]
  | false => simp only [Bool.false_eq_true, if_false] at h ⊢; rw [goR_thenV (J.Good.may x) h.1, h.2]
def orIs (c E : Bool) (σ6 σ7 : RS) : Prop := if c then E = true ∧ σ6 = σ7 else Gives (J.may 69) σ6 E ∧ (goR (J.may 69) σ6).1 = σ7
theorem num_one {σ σ1 σ2 σ3 : RS} {B1 B2 : Bool} (g1 : Gives (J.may 45) σ B1) (h1 : (goR (J.may 45) σ).1 = σ1) (g2 : Gives (J.may 48) σ1 B2) (h2 : (goR (J.may 48) σ1).1 = σ2) (h3 : (if B2 then σ2 else (goR J.digits σ2).1) = σ3) :
    goR J.numB σ = goR J.numP σ3 := by
  unfold J.numB
  rw [goR_thenV (J.Good.may _) g1, h1, goR_thenV (J.Good.may _) g2, h2, ite_dig' h3]
theorem num_two {σ3 σ4 σ5 : RS} {B4 : Bool} (g4 : Gives (J.may 46) σ3 B4) (h4 : (goR (J.may 46) σ3).1 = σ4) (h5 : (if B4 then (goR J.digits σ4).1 else σ4) = σ5) : goR J.numP σ3 = goR (J.numE B4) σ5 := by
  unfold J.numP
  rw [goR_thenV (J.Good.may _) g4, h4, ite_dig h5]
theorem num_exp {p : Bool} {σ7 σ8 σ9 σ10 : RS} {E B8 : Bool} {σ5 σ6 : RS} {B6 : Bool} (g6 : Gives (J.may 101) σ5 B6) (h6 : (goR (J.may 101) σ5).1 = σ6) (h7 : orIs B6 E σ6 σ7)
    (hE : E = true) (g8 : Gives (J.may 43) σ7 B8) (h8 : (goR (J.may 43) σ7).1 = σ8) (h9 : if B8 then σ8 = σ9 else (goR (J.may 45) σ8).1 = σ9) (h10 : (goR J.digits σ9).1 = σ10) :
    goR (J.numE p) σ5 = goR (J.Rd.pure (!p && !true)) σ10 := by
  unfold J.numE
  rw [goR_thenV (J.Good.may _) g6, h6, ite_may h7, hE]
  simp only [if_true]
  rw [then_assoc, goR_thenV (J.Good.may _) g8, h8, then_assoc]
  have k : goR ((if B8 then J.Rd.pure true else J.may 45).then fun x => J.digits.then fun _ => J.Rd.pure (!p && !true)) σ8 = goR (J.digits.then fun _ => J.Rd.pure (!p && !true)) σ9 := by
    cases B8 with
    | true => simp only [if_true] at h9 ⊢; rw [pure_then, h9]
    | false => simp only [Bool.false_eq_true, if_false] at h9 ⊢; rw [goR_thenV (J.Good.may _) (gives_get _ _ false), h9]
  rw [k, unit_then J.Good.digits, h10]
theorem num_plain {p : Bool} {σ5 σ6 σ7 : RS} {E B6 : Bool} (g6 : Gives (J.may 101) σ5 B6) (h6 : (goR (J.may 101) σ5).1 = σ6) (h7 : orIs B6 E σ6 σ7) (hE : E = false) :
    goR (J.numE p) σ5 = goR (J.Rd.pure (!p && !false)) σ7 := by
  unfold J.numE
  rw [goR_thenV (J.Good.may _) g6, h6, ite_may h7, hE]
  simp only [Bool.false_eq_true, if_false]
  rw [pure_then]
structure DNumP (b : Nat) (S : ByteArray) (dp : Nat) (σ : RS) (w : World) (e : Ending) (w' : World) : Prop where
  ex : ∃ (k : Nat) (n : Int) (t : ByteArray), e = .returned (.agg (flatA k false n t)) ∧ k < 256 ∧ J.Rng n ∧ (∀ v, (goR J.number σ).2 = some v → v = .mk k false n (numsOf t) [] []) ∧ DIn w' b S dp (goR J.number σ).1 ∧ w.grownBy w' (some b)
theorem dnum_end {w wE wG : World} {b : Nat} {S : ByteArray} {dp : Nat} {σ s8 : RS} {a1 a2 a3 a4 a5 a6 : Value} (h : NI b S dp w s8 wE) (hb : Below wE.heap.size wE wG) (hs : (goR J.number σ).1 = s8)
    (k : Nat) (n : Int) (t : ByteArray) (hk : k < 256) (hn : J.Rng n) (hv : ∀ v, (goR J.number σ).2 = some v → v = .mk k false n (numsOf t) [] []) : DNumP b S dp σ w (.returned (.agg (flatA k false n t))) (set6 wG w.heap.size a1 a2 a3 a4 a5 a6) := by
  have g6 := set6_grown wG w.heap.size a1 a2 a3 a4 a5 a6
  have hg2 := grown_trans h.g (grown_below hb (some b))
  have hlt := h.lt
  refine ⟨k, n, t, rfl, hk, hn, hv, ?_, ⟨g6.os.trans hg2.os, g6.tape.trans hg2.tape, g6.output.trans hg2.output, Nat.le_trans hg2.size g6.size, fun i hi hne => ?_⟩⟩
  · rw [hs]
    have hlE := (h.r.below hb).lt
    exact (h.r.below hb).at (g6.block b hlE (fun e => by cases e; omega))
  · exact (g6.block i (Nat.lt_of_lt_of_le hi hg2.size) (fun e => by cases e; omega)).trans (hg2.block i hi hne)
set_option maxHeartbeats 4000000 in
set_option maxRecDepth 8000 in
theorem dnumber_any (b : Nat) (S : ByteArray) (dp : Nat) (σ : RS) (w : World) (h : DIn w b S dp σ) : Calls Tryd.prog 74 #[rp b] w fun e w' => DNumP b S dp σ w e w' := by
  have hlt := h.lt
  have hbA : Below w.heap.size w (w.alloc jbox) := (Below.refl _ _).alloc (Nat.le_refl _) jbox
  have hN := _root_.Go.heap_alloc_new w jbox
  have ni0 : NI b S dp w σ (w.alloc jbox) := ⟨h.below hbA, hN, grown_below hbA _, hlt⟩
  obtain ⟨i0, hi0, hc1, hi1⟩ := ni0.r.c1'
  have M1 := ni_may (x := 45) (by decide) ni0
  have HI0 : Hid (∀ s j, σ = .live s j → (i0 : Int) = (j : Int)) := hi1
  have HOK : Hid (σ.ok ∧ S.size ≤ 20000 ∧ i0 ≤ 20001) := ⟨h.ok, h.sz, hi0⟩
  obtain ⟨I, hI⟩ : ∃ I : Int, (i0 : Int) = I := ⟨_, rfl⟩
  rw [hI] at hc1
  have HII : Hid ((i0 : Int) = I) := hI
  simp only [show (((45 : Nat) : Int)) = 45 from rfl] at M1
  unfold rp at M1 ⊢
  unfold jbox zeroA at M1 hc1
  clear h hbA hN ni0 hi0 hi1 hI hlt
  go_enter Tryd.func74, Tryd.ntmps74
  go_wp2_with fail
  refine M1.mono ?_
  rintro e w1 ⟨B1, rfl, gv1, n1⟩
  obtain ⟨σ1, hσ1⟩ : ∃ x, (goR (J.may 45) σ).1 = x := ⟨_, rfl⟩
  rw [hσ1] at n1
  have M2 := ni_may (x := 48) (by decide) n1
  simp only [show (((48 : Nat) : Int)) = 48 from rfl] at M2
  unfold rp at M2
  have HG1 : Hid (Gives (J.may 45) σ B1 ∧ (goR (J.may 45) σ).1 = σ1) := ⟨gv1, hσ1⟩
  clear M1 hc1 gv1 hσ1 n1
  simp only []
  go_wp2_with fail
  refine M2.mono ?_
  rintro e w2 ⟨B2, rfl, gv2, n2⟩
  obtain ⟨σ2, hσ2⟩ : ∃ x, (goR (J.may 48) σ1).1 = x := ⟨_, rfl⟩
  rw [hσ2] at n2
  obtain ⟨σ3, hσ3⟩ : ∃ x, (if B2 then σ2 else (goR J.digits σ2).1) = x := ⟨_, rfl⟩
  have HG3 : Hid (goR J.numB σ = goR J.numP σ3) := num_one HG1.out.1 HG1.out.2 gv2 hσ2 hσ3
  have HN2 : Hid (NI b S dp w σ2 w2) := n2
  have HS3 : Hid ((if B2 then σ2 else (goR J.digits σ2).1) = σ3) := hσ3
  clear M2 gv2 hσ2 n2 HG1 hσ3
  simp only []
  go_upto_if 16 with fail
  go_cut [] from 8 (fun wc => NI b S dp w σ3 wc)
  case first =>
    cases B2 with
    | true =>
      go_wp2
      go_meet
      case rel => have := HS3.out; simp only [if_true] at this; rw [← this]; exact HN2.out
    | false =>
      have D3 := ni_digits HN2.out
      unfold rp at D3
      go_wp2_with fail
      refine D3.mono ?_
      rintro e w3 ⟨rfl, n3⟩
      clear D3
      go_wp2
      go_meet
      case rel => have := HS3.out; simp only [Bool.false_eq_true, if_false] at this; rw [← this]; exact n3
  case rest =>
  clear HS3 HN2
  have M4 := ni_may (x := 46) (by decide) hcut
  simp only [show (((46 : Nat) : Int)) = 46 from rfl] at M4
  unfold rp at M4
  clear hcut
  go_wp2_with fail
  refine M4.mono ?_
  rintro e w4 ⟨B4, rfl, gv4, n4⟩
  obtain ⟨σ4, hσ4⟩ : ∃ x, (goR (J.may 46) σ3).1 = x := ⟨_, rfl⟩
  rw [hσ4] at n4
  obtain ⟨σ5, hσ5⟩ : ∃ x, (if B4 then (goR J.digits σ4).1 else σ4) = x := ⟨_, rfl⟩
  have HG5 : Hid (goR J.numB σ = goR (J.numE B4) σ5) := by show _ = _; rw [HG3.out]; exact num_two gv4 hσ4 hσ5
  have HN4 : Hid (NI b S dp w σ4 w4) := n4
  have HS5 : Hid ((if B4 then (goR J.digits σ4).1 else σ4) = σ5) := hσ5
  clear M4 gv4 hσ4 n4 HG3 hσ5
  simp only []
  go_upto_if 20 with fail
  go_cut [4] from 8 (fun s4 wc => s4 = .bool (!B4) ∧ NI b S dp w σ5 wc)
  case first =>
    cases B4 with
    | false =>
      go_wp2
      go_meet
      case rel => have := HS5.out; simp only [Bool.false_eq_true, if_false] at this; rw [← this]; exact ⟨rfl, HN4.out⟩
    | true =>
      have D3 := ni_digits HN4.out
      unfold rp at D3
      go_wp2_with fail
      refine D3.mono ?_
      rintro e w5 ⟨rfl, n5⟩
      clear D3
      go_wp2
      go_meet
      case rel => have := HS5.out; simp only [if_true] at this; rw [← this]; exact ⟨rfl, n5⟩
  case rest =>
  obtain ⟨rfl, n5⟩ := hcut
  clear HS5 HN4
  have HN5 : Hid (NI b S dp w σ5 wc) := n5
  clear n5
  go_upto_region 9 with fail
  go_cut [28] from 8 (fun s28 wc => ∃ B6 σ6 E σ7, s28 = .bool E ∧ Gives (J.may 101) σ5 B6 ∧ (goR (J.may 101) σ5).1 = σ6 ∧ orIs B6 E σ6 σ7 ∧ NI b S dp w σ7 wc)
  case first =>
    have M6 := ni_may (x := 101) (by decide) HN5.out
    simp only [show (((101 : Nat) : Int)) = 101 from rfl] at M6
    unfold rp at M6
    go_wp2_with fail
    refine M6.mono ?_
    rintro e w6 ⟨B6, rfl, gv6, n6⟩
    obtain ⟨σ6, hσ6⟩ : ∃ x, (goR (J.may 101) σ5).1 = x := ⟨_, rfl⟩
    rw [hσ6] at n6
    have HG6 : Hid (Gives (J.may 101) σ5 B6 ∧ (goR (J.may 101) σ5).1 = σ6) := ⟨gv6, hσ6⟩
    have HN6 : Hid (NI b S dp w σ6 w6) := n6
    clear M6 gv6 hσ6 n6
    simp only []
    cases B6 with
    | true =>
      go_wp2
      go_meet
      case rel => exact ⟨true, σ6, true, σ6, rfl, HG6.out.1, HG6.out.2, ⟨rfl, rfl⟩, HN6.out⟩
    | false =>
      have M7 := ni_may (x := 69) (by decide) HN6.out
      simp only [show (((69 : Nat) : Int)) = 69 from rfl] at M7
      unfold rp at M7
      go_wp2_with fail
      refine M7.mono ?_
      rintro e w7 ⟨B7, rfl, gv7, n7⟩
      clear M7
      simp only []
      go_wp2
      go_meet
      case rel => exact ⟨false, σ6, B7, _, rfl, HG6.out.1, HG6.out.2, ⟨gv7, rfl⟩, n7⟩
  case rest =>
  obtain ⟨B6, σ6, E, σ7, rfl, gv6, hσ6, hE7, n7⟩ := hcut
  have H7 : Hid (Gives (J.may 101) σ5 B6 ∧ (goR (J.may 101) σ5).1 = σ6 ∧ orIs B6 E σ6 σ7) := ⟨gv6, hσ6, hE7⟩
  have HN7 : Hid (NI b S dp w σ7 wc) := n7
  clear gv6 hσ6 hE7 n7 HN5
  go_upto_if 28 with fail
  go_cut [4] from 8 (fun s4 wc => ∃ F σ10, s4 = .bool F ∧ goR J.numB σ = goR (J.Rd.pure F) σ10 ∧ NI b S dp w σ10 wc)
  case first =>
    cases E with
    | false =>
      go_wp2
      go_meet
      case rel => exact ⟨!B4, σ7, rfl, by rw [HG5.out, num_plain (p := B4) H7.out.1 H7.out.2.1 H7.out.2.2 rfl]; simp, HN7.out⟩
    | true =>
      have M8 := ni_may (x := 43) (by decide) HN7.out
      simp only [show (((43 : Nat) : Int)) = 43 from rfl] at M8
      unfold rp at M8
      go_wp2_with fail
      refine M8.mono ?_
      rintro e w8 ⟨B8, rfl, gv8, n8⟩
      obtain ⟨σ8, hσ8⟩ : ∃ x, (goR (J.may 43) σ7).1 = x := ⟨_, rfl⟩
      rw [hσ8] at n8
      clear M8
      simp only []
      cases B8 with
      | true =>
        have D9 := ni_digits n8
        unfold rp at D9
        go_wp2_with fail
        refine D9.mono ?_
        rintro e w10 ⟨rfl, n10⟩
        clear D9 n8
        simp only []
        go_wp2
        go_meet
        case rel => exact ⟨false, _, rfl, by rw [HG5.out, num_exp (p := B4) H7.out.1 H7.out.2.1 H7.out.2.2 rfl gv8 hσ8 (σ9 := σ8) (by simp) rfl]; simp, n10⟩
      | false =>
        have M9 := ni_may (x := 45) (by decide) n8
        simp only [show (((45 : Nat) : Int)) = 45 from rfl] at M9
        unfold rp at M9
        go_wp2_with fail
        refine M9.mono ?_
        rintro e w9 ⟨B9, rfl, _, n9⟩
        have D9 := ni_digits n9
        unfold rp at D9
        clear M9 n8 n9
        simp only []
        go_wp2_with fail
        refine D9.mono ?_
        rintro e w10 ⟨rfl, n10⟩
        clear D9
        simp only []
        go_wp2
        go_meet
        case rel => exact ⟨false, _, rfl, by rw [HG5.out, num_exp (p := B4) H7.out.1 H7.out.2.1 H7.out.2.2 rfl gv8 hσ8 (σ9 := (goR (J.may 45) σ8).1) (by simp) rfl]; simp, n10⟩
  case rest =>
  obtain ⟨F, σ10, rfl, hgo, n10⟩ := hcut
  have HN10 : Hid (NI b S dp w σ10 wc ∧ goR J.numB σ = goR (J.Rd.pure F) σ10) := ⟨n10, hgo⟩
  have HX : Hid (wc.heap[w.heap.size]? = some jbox) := n10.x
  have hst := num_state hgo n10.r.ok
  have HST : Hid ((goR J.number σ).1 = σ10) := hst
  clear hst hgo HN7 H7 HG5
  obtain ⟨i1, at1, hi1, hat1, hb1, hl1, hd1⟩ := n10.r.ex
  have c0 : wc.cell? ⟨b, 0, none⟩ = some (.string S) := by rw [cell_of_block hb1]; rfl
  have c1 : wc.cell? ⟨b, 1, none⟩ = some (.int .i64 (i1 : Int)) := by rw [cell_of_block hb1]; rfl
  have c2 : wc.cell? ⟨b, 2, none⟩ = some (.int .i64 (σ10.e : Int)) := by rw [cell_of_block hb1]; rfl
  obtain ⟨⟨r0, r1, r2, r3, r4, r5⟩, y0, y1, y2, y3, y4, y5⟩ := box_cells n10.x
  clear hb1
  cases σ10 with
  | dead s e =>
    have he : ((e : Int) != 0) = true := by
      have := n10.r.ok.1
      simp; omega
    simp only [RS.e] at c2
    have HE : Hid (∀ v, (goR J.number σ).2 = some v → v = .mk 0 false 0 (numsOf (⟨#[]⟩ : ByteArray)) [] []) := fun v hv => by
      have : goR J.numB σ = (.dead s e, none) := HN10.out.2
      rw [goR_number_none this] at hv
      cases hv
    clear n10 hl1 hd1 hi1 hat1
    go_wp2_with fail
    refine bodyPost_ret (results_cell_row rfl _ _ w.heap.size 25 (flatA 0 false 0 ⟨#[]⟩) (0, 0) _ rfl (set6_heap HX.out _ _ _ _ _ _) Tryd.underlying25 rfl size_json) rfl ?_
    exact dnum_end HN10.out.1 (Below.refl _ _) HST.out 0 0 ⟨#[]⟩ (by decide) (by unfold J.Rng; omega) HE.out
  | live s j =>
    obtain ⟨hsS, hij⟩ := hl1 s j rfl
    subst hsS
    subst hij
    simp only [RS.e] at c2
    rw [show (((0 : Nat) : Int)) = 0 from rfl] at c2
    have e2 : goR J.numB σ = (.live s i1, some F) := by rw [HN10.out.2, goR_pure F n10.r.ok]
    have hmo := goR_mono J.Good.numB σ HOK.out.1
    obtain ⟨s', k0, j', e3, e4⟩ := goR_live e2
    cases e4
    subst e3
    rw [e2] at hmo
    have hk0 : k0 ≤ i1 := hmo
    have hIK : I = (k0 : Int) := by have h1 := HI0.out s k0 rfl; have h2 := HII.out; omega
    subst hIK
    have hi1s : i1 ≤ s.size := n10.r.ok
    have hss : s.size ≤ 20000 := n10.r.sz
    obtain ⟨hnum, hwh⟩ := goR_number (show k0 ≤ s.size from HOK.out.1) e2
    have X := slice_mid s k0 i1 hk0 hi1s
    obtain ⟨tx, htx⟩ : ∃ tx, s.extract k0 i1 = tx := ⟨_, rfl⟩
    have htz : tx.size ≤ 20000 := by rw [← htx, ByteArray.size_extract]; omega
    rw [htx] at X hnum hwh
    have HNUM : Hid (goR J.number (.live s k0) = (.live s i1, some (J.numV F (numsOf tx))) ∧ tx.size ≤ 20000) := ⟨hnum, htz⟩
    have HWH : Hid (F = true → IntIs tx) := fun hf => int_is (by rw [hf] at hwh; exact hwh)
    obtain ⟨K, hK⟩ : ∃ K : Int, (k0 : Int) = K := ⟨_, rfl⟩
    obtain ⟨J0, hJ⟩ : ∃ J0 : Int, (i1 : Int) = J0 := ⟨_, rfl⟩
    rw [hK, hJ] at X
    rw [hJ] at c1
    rw [hK]
    clear n10 hl1 hd1 hi1 hat1 e2 hmo hk0 hi1s hss hnum hwh htx htz hK hJ r0 r1 r2 r3 r4 r5 y0 y1 y2 y3 y4 y5
    go_wp2_with fail
    go_quiet (fail)
    have B1 : Below wc.heap.size wc (wc.drewN nq) := below_dN (Below.refl _ _) _
    have hbx2 := box_below HX.out B1
    have HB1 : Hid (Below wc.heap.size wc (wc.drewN nq)) := B1
    have HX2 : Hid ((wc.drewN nq).heap[w.heap.size]? = some jbox) := hbx2
    have N3 : Hid (J.numV F (numsOf tx) = .mk 3 false 0 (numsOf tx) [] [] → ∀ v, (goR J.number (.live s k0)).2 = some v → v = .mk 3 false 0 (numsOf tx) [] []) := fun h v hv => by
      rw [HNUM.out.1] at hv
      cases hv
      exact h
    obtain ⟨⟨d0, d1, d2, d3, d4, d5⟩, f0, f1, f2, f3, f4, f5⟩ := box_cells hbx2
    generalize wc.drewN nq = wF at *
    clear c0 c1 c2 X B1 hbx2
    cases F with
    | false =>
      have HV : Hid (∀ v, (goR J.number (.live s k0)).2 = some v → v = .mk 3 false 0 (numsOf tx) [] []) := N3.out (by unfold J.numV; rw [if_neg]; rintro ⟨h, _⟩; cases h)
      go_wp2_with fail
      refine bodyPost_ret (results_cell_row rfl _ _ w.heap.size 25 (flatA 3 false 0 tx) (0, 0) _ rfl (set6_heap HX2.out _ _ _ _ _ _) Tryd.underlying25 rfl size_json) rfl ?_
      exact dnum_end HN10.out.1 HB1.out HST.out 3 0 tx (by decide) rng_zero HV.out
    | true =>
      by_cases hm : tx = ⟨#[45, 48]⟩
      · have hmb : (tx.toList == [45, 48]) = true := by rw [← dash_list]; exact (Lib.bytes_beq_iff tx ⟨#[45, 48]⟩).2 hm
        have HV : Hid (∀ v, (goR J.number (.live s k0)).2 = some v → v = .mk 3 false 0 (numsOf tx) [] []) := N3.out (by unfold J.numV; rw [if_neg]; rintro ⟨_, h, _⟩; exact h (by rw [hm]; rfl))
        clear hm
        go_wp2_with fail
        refine bodyPost_ret (results_cell_row rfl _ _ w.heap.size 25 (flatA 3 false 0 tx) (0, 0) _ rfl (set6_heap HX2.out _ _ _ _ _ _) Tryd.underlying25 rfl size_json) rfl ?_
        exact dnum_end HN10.out.1 HB1.out HST.out 3 0 tx (by decide) rng_zero HV.out
      · have hmb : (tx.toList == [45, 48]) = false := by rw [← dash_list]; exact (Lib.bytes_beq_false_iff tx ⟨#[45, 48]⟩).2 hm
        have HM : Hid (numsOf tx ≠ [45, 48]) := fun e => hm (numsOf_inj (by rw [e]; rfl))
        have PI := dInt_any tx (HWH.out rfl) HNUM.out.2 wF
        clear hm d0 d1 d2 d3 d4 d5 f0 f1 f2 f3 f4 f5
        go_wp2_with fail
        refine PI.mono ?_
        rintro e wG ⟨n, f, rfl, hf1, hf2, hbG⟩
        have HX3 : Hid (wG.heap[w.heap.size]? = some jbox) := box_below HX2.out hbG
        have HB3 : Hid (Below wc.heap.size wc wG) := below_more HB1.out hbG
        obtain ⟨⟨d0, d1, d2, d3, d4, d5⟩, f0, f1, f2, f3, f4, f5⟩ := box_cells HX3.out
        clear PI hbG
        simp only []
        cases f with
        | false =>
          have HV : Hid (∀ v, (goR J.number (.live s k0)).2 = some v → v = .mk 3 false 0 (numsOf tx) [] []) := N3.out (by
            unfold J.numV
            rw [if_neg]
            rintro ⟨_, _, h1, h2⟩
            have := hf1.2 ⟨h1, h2⟩
            cases this)
          clear hf1 hf2
          go_wp2_with fail
          refine bodyPost_ret (results_cell_row rfl _ _ w.heap.size 25 (flatA 3 false 0 tx) (0, 0) _ rfl (set6_heap HX3.out _ _ _ _ _ _) Tryd.underlying25 rfl size_json) rfl ?_
          exact dnum_end HN10.out.1 HB3.out HST.out 3 0 tx (by decide) rng_zero HV.out
        | true =>
          have hr := hf1.1 rfl
          have hn := hf2 rfl
          have HV : Hid (J.Rng n ∧ ∀ v, (goR J.number (.live s k0)).2 = some v → v = .mk 2 false n (numsOf (⟨#[]⟩ : ByteArray)) [] []) := ⟨by rw [hn]; exact hr, fun v hv => by
            rw [HNUM.out.1] at hv
            cases hv
            unfold J.numV
            unfold J.Rng at hr
            rw [if_pos ⟨rfl, HM.out, hr.1, hr.2⟩, hn]
            rfl⟩
          clear hf1 hf2 hr hn
          go_wp2_with fail
          refine bodyPost_ret (results_cell_row rfl _ _ w.heap.size 25 (flatA 2 false n ⟨#[]⟩) (0, 0) _ rfl (set6_heap HX3.out _ _ _ _ _ _) Tryd.underlying25 rfl size_json) rfl ?_
          exact dnum_end HN10.out.1 HB3.out HST.out 2 n ⟨#[]⟩ (by decide) HV.out.1 HV.out.2
end Go.Proofs.YtcfalgomcdmdhaaDoor
namespace Go.Proofs.YtcfalgomcdmdhaaDoor
open Go.RowKit Go.WideShapes Go.Joins
end Go.Proofs.YtcfalgomcdmdhaaDoor
namespace Go.Proofs.YtcfalgomcdmdhaaDoor
open Go.RowKit Go.WideShapes Go.Joins
theorem char_adv {s : ByteArray} {i j : Nat} (h : (goR J.char (.live s i)).1 = .live s j) : i + 1 ≤ j ∧ j ≤ s.size := by
  simp only [goR] at h
  cases hv : J.char ((numsOf s).drop i) with
  | ok v r =>
    rw [hv] at h
    simp only [RS.live.injEq, true_and] at h
    unfold J.char at hv
    obtain ⟨c, m, h1, h2⟩ := J.then_ok hv
    have g1 := (J.Good.need 194 244)
    obtain ⟨a, ha⟩ := g1.okS _ _ _ h1
    have hne : a ≠ [] := by
      intro e
      subst e
      simp only [List.nil_append] at ha
      rw [ha] at h1
      cases m with
      | nil => simp [J.need, J.sw] at h1
      | cons d m =>
        simp only [J.need, J.sw] at h1
        by_cases hd : 194 ≤ d ∧ d ≤ 244
        · simp only [hd, and_self, if_true, J.Rd.pure, J.Res.ok.injEq] at h1
          have := congrArg List.length h1.2
          simp at this
        · simp only [hd, if_false] at h1; cases h1
    have hr : ∃ x, m = x ++ r := (J.Good.then (J.Good.need _ _) fun _ => J.Good.then (J.Good.iteB (J.Good.need _ _) (J.Good.pure _)) fun _ => J.Good.then (J.Good.iteB (J.Good.need _ _) (J.Good.pure _)) fun _ => J.Good.pure _).okS _ _ _ h2
    obtain ⟨x, rfl⟩ := hr
    have hl := congrArg List.length ha
    rw [rest_len] at hl
    simp only [List.length_append] at hl
    have : 0 < a.length := List.length_pos_iff.2 hne
    omega
  | bad e r => rw [hv] at h; cases h
  | out => rw [hv] at h; cases h
theorem stays {α : Type} (p : J.Rd α) {s : ByteArray} {i : Nat} : (∃ j, (goR p (.live s i)).1 = .live s j) ∨ ∃ t e, (goR p (.live s i)).1 = .dead t e := by
  simp only [goR]
  cases p ((numsOf s).drop i) with
  | ok v r => exact .inl ⟨_, rfl⟩
  | bad e r => exact .inr ⟨_, _, rfl⟩
  | out => exact .inr ⟨_, _, rfl⟩
end Go.Proofs.YtcfalgomcdmdhaaDoor
