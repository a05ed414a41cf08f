/-
  The document's Int: the walk. Written by tools/gen_gdi.py out of json's JDIw.
-/
import Derived.Test.YtkcmidhpbaepoaaDoorGDa
namespace Go.Proofs.YtkcmidhpbaepoaaDoor.G
open Go.RowKit Go.WideShapes Go.Joins

theorem foldU_snoc (acc : Nat) (l : List UInt8) (c : UInt8) : foldU acc (l ++ [c]) = 10 * foldU acc l + (c.toNat - 48) := by
  simp only [foldU, List.foldl_append, List.foldl_cons, List.foldl_nil]
theorem foldU_app (acc : Nat) (l m : List UInt8) : foldU acc (l ++ m) = foldU (foldU acc l) m := by
  simp only [foldU, List.foldl_append]
theorem foldU_take {l : List UInt8} {k : Nat} : foldU 0 (l.take k) ≤ foldU 0 l := by
  have := foldU_app 0 (l.take k) (l.drop k)
  rw [List.take_append_drop] at this
  rw [this]
  exact foldU_le _ _
theorem foldU_next {l : List UInt8} {k : Nat} (h : k < l.length) : foldU 0 (l.take (k + 1)) = 10 * foldU 0 (l.take k) + (l[k].toNat - 48) := by
  rw [List.take_succ_eq_append_getElem h, foldU_snoc]
theorem nums_u {D : ByteArray} {ds : List UInt8} (h : D.data.toList = ds) {k : Nat} (hk : k < ds.length) : (numsOf D).getD k 0 = ds[k].toNat := by
  subst h
  rw [toNat_map, List.getD_eq_getElem?_getD, List.getElem?_map, List.getElem?_eq_getElem hk]
  rfl
theorem size_u {D : ByteArray} {ds : List UInt8} (h : D.data.toList = ds) : D.size = ds.length := by
  subst h; show D.data.size = _; rw [Array.length_toList]
/-- Between two digits. -/
inductive IntI (ds : List UInt8) (w : World) (s7 s8 : Value) (wr : World) : Prop where
  | intro (k : Nat) (hk : k ≤ ds.length) (h8 : s8 = .int .i64 (k : Int)) (N : Int) (h7 : s7 = .int .i64 N) (hN : N = -(foldU 0 (ds.take k) : Int)) (hb : Below w.heap.size w wr)
/-- what Int answers -/
structure IntP (s : ByteArray) (w : World) (e : Ending) (w' : World) : Prop where
  ex : ∃ (n : Int) (f : Bool), e = .returned (.tuple #[.int .i64 n, .bool f]) ∧ (f = true ↔ J.Rng (J.intOf (numsOf s))) ∧ (f = true → n = J.intOf (numsOf s)) ∧ Below w.heap.size w w'
set_option maxHeartbeats 4000000 in
set_option maxRecDepth 8000 in
theorem dInt_any (s : ByteArray) (hs : IntIs s) (hz : s.size ≤ 20000) (w : World) : Calls Tryd.prog 27 #[.string s] w fun e w' => IntP s w e w' := by
  obtain ⟨m, ds, hd, hne, h45, hs, hfit, hI⟩ := hs.ex
  have hdl : 0 < ds.length := List.length_pos_iff.2 hne
  cases m with
  | false =>
    simp only [Bool.false_eq_true, if_false] at hs hfit hI
    have hsz : s.size = ds.length := size_u hs
    have hc0 : (numsOf s).getD 0 0 ≠ 45 := by
      rw [nums_u hs hdl]
      intro e
      refine h45 ?_
      rw [List.head?_eq_getElem?, List.getElem?_eq_getElem hdl]
      exact congrArg some (UInt8.toNat_inj.1 e)
    have hx0 := fun w' => str_at s 0 (by omega) w'
    obtain ⟨C0, hC0⟩ : ∃ C : Int, (((numsOf s).getD 0 0 : Nat) : Int) = C := ⟨_, rfl⟩
    rw [hC0] at hx0
    simp only [show (((0 : Nat) : Int)) = 0 from rfl] at hx0
    have hcb : (C0 == 45) = false := by simpa using fun e : C0 = 45 => hc0 (by omega)
    have HDS : Hid (s.size = ds.length) := hsz
    have hDt : s.toList = ds := by rw [Lib.toList_data]; exact hs
    have hLt : mostS.toList = mostS.data.toList := Lib.toList_data _
    have HR : Hid (J.Rng (J.intOf (numsOf s)) → foldU 0 ds ≤ 9223372036854775808 ∧ J.intOf (numsOf s) = (foldU 0 ds : Int)) := fun hr => by
      unfold J.Rng at hr
      rw [hI] at hr
      exact ⟨by omega, hI⟩
    have NO : Hid (¬ J.Rng (J.intOf (numsOf s)) → IntP s w (.returned (.tuple #[.int .i64 0, .bool false])) w) := fun hr => ⟨0, false, rfl, ⟨fun e => (by cases e), fun e => absurd e hr⟩, fun e => (by cases e), Below.refl _ _⟩
    have HX : Hid (∀ k (hk : k < ds.length) w', (Instr.index 9 (.string s) (.int .i64 (k : Int))).run Tryd.prog w' = .ok (.int .u8 (ds[k].toNat : Int)) w' ∧ 48 ≤ ds[k].toNat ∧ ds[k].toNat ≤ 57) := fun k hk w' => by
      have := str_at s k (by omega) w'
      rw [nums_u hs hk] at this
      exact ⟨this, hd _ (List.getElem_mem _)⟩
    have HZ : Hid (ds.length ≤ 20000) := by show _ ≤ _; omega
    obtain ⟨G, hG⟩ : ∃ G : Bool, (!(Op.bytesLess s.toList mostS.toList || s.toList == mostS.toList)) = G := ⟨_, rfl⟩
    rw [hDt, hLt] at hG
    rw [hG] at hfit
    rw [← hDt, ← hLt] at hG
    have HF : Hid ((19 < ds.length ∨ ds.length = 19 ∧ G = true) ↔ ¬ J.Rng (J.intOf (numsOf s))) := hfit
    have hDI : (s.size : Int) = (ds.length : Int) := by omega
    have hG : (!Op.bytesLess s.toList [57, 50, 50, 51, 51, 55, 50, 48, 51, 54, 56, 53, 52, 55, 55, 53, 56, 48, 55] && !(s.toList == [57, 50, 50, 51, 51, 55, 50, 48, 51, 54, 56, 53, 52, 55, 55, 53, 56, 48, 55])) = G := by rw [← Bool.not_or, show ([57, 50, 50, 51, 51, 55, 50, 48, 51, 54, 56, 53, 52, 55, 55, 53, 56, 48, 55] : List UInt8) = mostS.toList by rw [Lib.toList_data]; rfl]; exact hG
    clear hs hfit hI hsz hDt hLt hne h45 hz hd hc0 hC0
    by_cases hA : 19 < ds.length
    · have q1 : (19 : Int) < (s.size : Int) := by omega
      have HNO : Hid (IntP s w (.returned (.tuple #[.int .i64 0, .bool false])) w) := NO.out (HF.out.1 (.inl hA))
      clear hA hG hDI hdl
      go_enter Tryd.func27, Tryd.ntmps27
      go_wp2_with fail
      go_ret2
      exact HNO.out
    have q1 : ¬ (19 : Int) < (s.size : Int) := by omega
    by_cases hB : ds.length = 19
    · have q2 : ((s.size : Int) == 19) = true := by simp; omega
      cases G with
      | true =>
        have HNO : Hid (IntP s w (.returned (.tuple #[.int .i64 0, .bool false])) w) := NO.out (HF.out.1 (.inr ⟨hB, rfl⟩))
        clear hA hB hDI hdl
        go_enter Tryd.func27, Tryd.ntmps27
        go_wp2_with fail
        go_ret2
        exact HNO.out
      | false =>
        have HRN : Hid (J.Rng (J.intOf (numsOf s))) := by
          refine Classical.not_not.1 fun e => ?_
          rcases HF.out.2 e with h | ⟨_, h⟩
          · exact hA h
          · cases h
        clear hA hB hDI hdl
        go_enter Tryd.func27, Tryd.ntmps27
        go_wp2_with fail
        go_loopw [7, 8] (fun s7 s8 wr => IntI ds w s7 s8 wr) (fun _ s8 _ => ds.length - (intOf s8).toNat)
        case atStart => exact ⟨0, Nat.zero_le _, rfl, 0, rfl, rfl, Below.refl _ _⟩
        case round =>
          obtain ⟨k, hk, rfl, N, rfl, hN, hb⟩ := hrel
          by_cases hlt : k < ds.length
          · have hkI : (k : Int) < (s.size : Int) := by have := HDS.out; omega
            have hk0 : (0 : Int) ≤ (k : Int) := by omega
            obtain ⟨_, k1, k2⟩ := HX.out k hlt wr
            have hx := fun w' => (HX.out k hlt w').1
            have hnx := foldU_next hlt
            have hle := foldU_take (l := ds) (k := k + 1)
            have hmx := (HR.out HRN.out).1
            obtain ⟨C, hC⟩ : ∃ C : Int, ((ds[k].toNat : Nat) : Int) = C := ⟨_, rfl⟩
            rw [hC] at hx
            have k3 : (48 : Int) ≤ C := by omega
            have k4 : C ≤ 57 := by omega
            have n1 : N ≤ 0 := by omega
            have n2 : -9223372036854775808 ≤ 10 * N - (C - 48) := by omega
            have HN : Hid (10 * N - (C - 48) = -(foldU 0 (ds.take (k + 1)) : Int) ∧ k < ds.length ∧ Below w.heap.size w wr) := ⟨by omega, hlt, hb⟩
            have n3 : -9223372036854775808 ≤ 10 * N := by omega
            have wc : wrap64 (C - 48) = C - 48 := by unfold wrap64; omega
            have HZI : Hid ((k : Int) < 20000) := by have := HZ.out; show _ < _; omega
            have kz : (k : Int) < 20000 := HZI.out
            clear hk hb hN hnx hle hmx k1 k2
            go_wp2_with fail
            go_roundw
            case rel =>
              have H := HN.out
              exact ⟨k + 1, H.2.1, by rw [Int.natCast_add]; rfl, _, rfl, H.1, H.2.2⟩
            case measure => have H := HN.out; simp [intOf]; omega
          · obtain rfl : k = ds.length := by omega
            have hkI : ¬ ((ds.length : Nat) : Int) < (s.size : Int) := by have := HDS.out; omega
            have hF := HR.out HRN.out
            rw [List.take_length] at hN
            have HBW : Hid (Below w.heap.size w wr) := hb
            have HNN : Hid (N = -(foldU 0 ds : Int)) := hN
            have n1 : -9223372036854775808 ≤ N := by omega
            have n2 : N ≤ 0 := by omega
            have n3 : -N ≤ 9223372036854775807 := by have := HR.out HRN.out; have h2 := HRN.out; unfold J.Rng at h2; omega
            clear hk hb hN hF hlt
            go_wp2_with fail
            go_ret2
            have H := HR.out HRN.out
            have HNv := HNN.out
            refine ⟨_, true, rfl, ⟨fun _ => HRN.out, fun _ => rfl⟩, fun _ => ?_, HBW.out⟩
            rw [H.2]
            omega
    · have q2 : ((s.size : Int) == 19) = false := by simp; omega
      have HRN : Hid (J.Rng (J.intOf (numsOf s))) := by
        refine Classical.not_not.1 fun e => ?_
        rcases HF.out.2 e with h | ⟨h, _⟩
        · exact hA h
        · exact hB h
      clear hA hB hDI hdl hG
      go_enter Tryd.func27, Tryd.ntmps27
      go_wp2_with fail
      go_loopw [7, 8] (fun s7 s8 wr => IntI ds w s7 s8 wr) (fun _ s8 _ => ds.length - (intOf s8).toNat)
      case atStart => exact ⟨0, Nat.zero_le _, rfl, 0, rfl, rfl, Below.refl _ _⟩
      case round =>
        obtain ⟨k, hk, rfl, N, rfl, hN, hb⟩ := hrel
        by_cases hlt : k < ds.length
        · have hkI : (k : Int) < (s.size : Int) := by have := HDS.out; omega
          have hk0 : (0 : Int) ≤ (k : Int) := by omega
          obtain ⟨_, k1, k2⟩ := HX.out k hlt wr
          have hx := fun w' => (HX.out k hlt w').1
          have hnx := foldU_next hlt
          have hle := foldU_take (l := ds) (k := k + 1)
          have hmx := (HR.out HRN.out).1
          obtain ⟨C, hC⟩ : ∃ C : Int, ((ds[k].toNat : Nat) : Int) = C := ⟨_, rfl⟩
          rw [hC] at hx
          have k3 : (48 : Int) ≤ C := by omega
          have k4 : C ≤ 57 := by omega
          have n1 : N ≤ 0 := by omega
          have n2 : -9223372036854775808 ≤ 10 * N - (C - 48) := by omega
          have HN : Hid (10 * N - (C - 48) = -(foldU 0 (ds.take (k + 1)) : Int) ∧ k < ds.length ∧ Below w.heap.size w wr) := ⟨by omega, hlt, hb⟩
          have n3 : -9223372036854775808 ≤ 10 * N := by omega
          have wc : wrap64 (C - 48) = C - 48 := by unfold wrap64; omega
          have HZI : Hid ((k : Int) < 20000) := by have := HZ.out; show _ < _; omega
          have kz : (k : Int) < 20000 := HZI.out
          clear hk hb hN hnx hle hmx k1 k2
          go_wp2_with fail
          go_roundw
          case rel =>
            have H := HN.out
            exact ⟨k + 1, H.2.1, by rw [Int.natCast_add]; rfl, _, rfl, H.1, H.2.2⟩
          case measure => have H := HN.out; simp [intOf]; omega
        · obtain rfl : k = ds.length := by omega
          have hkI : ¬ ((ds.length : Nat) : Int) < (s.size : Int) := by have := HDS.out; omega
          have hF := HR.out HRN.out
          rw [List.take_length] at hN
          have HBW : Hid (Below w.heap.size w wr) := hb
          have HNN : Hid (N = -(foldU 0 ds : Int)) := hN
          have n1 : -9223372036854775808 ≤ N := by omega
          have n2 : N ≤ 0 := by omega
          have n3 : -N ≤ 9223372036854775807 := by have := HR.out HRN.out; have h2 := HRN.out; unfold J.Rng at h2; omega
          clear hk hb hN hF hlt
          go_wp2_with fail
          go_ret2
          have H := HR.out HRN.out
          have HNv := HNN.out
          refine ⟨_, true, rfl, ⟨fun _ => HRN.out, fun _ => rfl⟩, fun _ => ?_, HBW.out⟩
          rw [H.2]
          omega
  | true =>
    simp only [if_true] at hs hfit hI
    have hsz : s.size = ds.length + 1 := by rw [size_u hs]; rfl
    have hc0 : (numsOf s).getD 0 0 = 45 := by rw [nums_u hs (by simp)]; rfl
    have hx0 := fun w' => str_at s 0 (by omega) w'
    rw [hc0] at hx0
    simp only [show (((0 : Nat) : Int)) = 0 from rfl, show (((45 : Nat) : Int)) = 45 from rfl] at hx0
    obtain ⟨D, hD⟩ : ∃ D, s.extract 1 s.size = D := ⟨_, rfl⟩
    have hDd : D.data.toList = ds := by
      rw [← hD]
      simp only [ByteArray.data_extract, Array.toList_extract, List.extract_eq_take_drop]
      rw [hs, List.drop_succ_cons, List.drop_zero, List.take_of_length_le (by omega)]
    have hDs : D.size = ds.length := size_u hDd
    have hx1 : ∀ w', (Instr.slice 9 (.string s) (some (.int .i64 1)) none none).run Tryd.prog w' = .ok (.string D) w' := fun w' => by
      have := run_slice_string_l w' 9 s Tryd.underlying9 .i64 1 (by omega) (by omega)
      rw [show (1 : Int).toNat = 1 from rfl, hD] at this
      exact this
    have HDS : Hid (D.size = ds.length) := hDs
    have hDt : D.toList = ds := by rw [Lib.toList_data]; exact hDd
    have hLt : moreS.toList = moreS.data.toList := Lib.toList_data _
    have HR : Hid (J.Rng (J.intOf (numsOf s)) → foldU 0 ds ≤ 9223372036854775808 ∧ J.intOf (numsOf s) = -(foldU 0 ds : Int)) := fun hr => by
      unfold J.Rng at hr
      rw [hI] at hr
      exact ⟨by omega, hI⟩
    have NO : Hid (¬ J.Rng (J.intOf (numsOf s)) → IntP s w (.returned (.tuple #[.int .i64 0, .bool false])) w) := fun hr => ⟨0, false, rfl, ⟨fun e => (by cases e), fun e => absurd e hr⟩, fun e => (by cases e), Below.refl _ _⟩
    have HX : Hid (∀ k (hk : k < ds.length) w', (Instr.index 9 (.string D) (.int .i64 (k : Int))).run Tryd.prog w' = .ok (.int .u8 (ds[k].toNat : Int)) w' ∧ 48 ≤ ds[k].toNat ∧ ds[k].toNat ≤ 57) := fun k hk w' => by
      have := str_at D k (by omega) w'
      rw [nums_u hDd hk] at this
      exact ⟨this, hd _ (List.getElem_mem _)⟩
    have HZ : Hid (ds.length ≤ 20000) := by show _ ≤ _; omega
    obtain ⟨G, hG⟩ : ∃ G : Bool, (!(Op.bytesLess D.toList moreS.toList || D.toList == moreS.toList)) = G := ⟨_, rfl⟩
    rw [hDt, hLt] at hG
    rw [hG] at hfit
    rw [← hDt, ← hLt] at hG
    have HF : Hid ((19 < ds.length ∨ ds.length = 19 ∧ G = true) ↔ ¬ J.Rng (J.intOf (numsOf s))) := hfit
    have hDI : (D.size : Int) = (ds.length : Int) := by omega
    have hG : (!Op.bytesLess D.toList [57, 50, 50, 51, 51, 55, 50, 48, 51, 54, 56, 53, 52, 55, 55, 53, 56, 48, 56] && !(D.toList == [57, 50, 50, 51, 51, 55, 50, 48, 51, 54, 56, 53, 52, 55, 55, 53, 56, 48, 56])) = G := by rw [← Bool.not_or, show ([57, 50, 50, 51, 51, 55, 50, 48, 51, 54, 56, 53, 52, 55, 55, 53, 56, 48, 56] : List UInt8) = moreS.toList by rw [Lib.toList_data]; rfl]; exact hG
    clear hs hfit hI hsz hDt hLt hne h45 hz hd hc0 hD hDd hDs
    by_cases hA : 19 < ds.length
    · have q1 : (19 : Int) < (D.size : Int) := by omega
      have HNO : Hid (IntP s w (.returned (.tuple #[.int .i64 0, .bool false])) w) := NO.out (HF.out.1 (.inl hA))
      clear hA hG hDI hdl
      go_enter Tryd.func27, Tryd.ntmps27
      go_wp2_with fail
      go_ret2
      exact HNO.out
    have q1 : ¬ (19 : Int) < (D.size : Int) := by omega
    by_cases hB : ds.length = 19
    · have q2 : ((D.size : Int) == 19) = true := by simp; omega
      cases G with
      | true =>
        have HNO : Hid (IntP s w (.returned (.tuple #[.int .i64 0, .bool false])) w) := NO.out (HF.out.1 (.inr ⟨hB, rfl⟩))
        clear hA hB hDI hdl
        go_enter Tryd.func27, Tryd.ntmps27
        go_wp2_with fail
        go_ret2
        exact HNO.out
      | false =>
        have HRN : Hid (J.Rng (J.intOf (numsOf s))) := by
          refine Classical.not_not.1 fun e => ?_
          rcases HF.out.2 e with h | ⟨_, h⟩
          · exact hA h
          · cases h
        clear hA hB hDI hdl
        go_enter Tryd.func27, Tryd.ntmps27
        go_wp2_with fail
        go_loopw [7, 8] (fun s7 s8 wr => IntI ds w s7 s8 wr) (fun _ s8 _ => ds.length - (intOf s8).toNat)
        case atStart => exact ⟨0, Nat.zero_le _, rfl, 0, rfl, rfl, Below.refl _ _⟩
        case round =>
          obtain ⟨k, hk, rfl, N, rfl, hN, hb⟩ := hrel
          by_cases hlt : k < ds.length
          · have hkI : (k : Int) < (D.size : Int) := by have := HDS.out; omega
            have hk0 : (0 : Int) ≤ (k : Int) := by omega
            obtain ⟨_, k1, k2⟩ := HX.out k hlt wr
            have hx := fun w' => (HX.out k hlt w').1
            have hnx := foldU_next hlt
            have hle := foldU_take (l := ds) (k := k + 1)
            have hmx := (HR.out HRN.out).1
            obtain ⟨C, hC⟩ : ∃ C : Int, ((ds[k].toNat : Nat) : Int) = C := ⟨_, rfl⟩
            rw [hC] at hx
            have k3 : (48 : Int) ≤ C := by omega
            have k4 : C ≤ 57 := by omega
            have n1 : N ≤ 0 := by omega
            have n2 : -9223372036854775808 ≤ 10 * N - (C - 48) := by omega
            have HN : Hid (10 * N - (C - 48) = -(foldU 0 (ds.take (k + 1)) : Int) ∧ k < ds.length ∧ Below w.heap.size w wr) := ⟨by omega, hlt, hb⟩
            have n3 : -9223372036854775808 ≤ 10 * N := by omega
            have wc : wrap64 (C - 48) = C - 48 := by unfold wrap64; omega
            have HZI : Hid ((k : Int) < 20000) := by have := HZ.out; show _ < _; omega
            have kz : (k : Int) < 20000 := HZI.out
            clear hk hb hN hnx hle hmx k1 k2
            go_wp2_with fail
            go_roundw
            case rel =>
              have H := HN.out
              exact ⟨k + 1, H.2.1, by rw [Int.natCast_add]; rfl, _, rfl, H.1, H.2.2⟩
            case measure => have H := HN.out; simp [intOf]; omega
          · obtain rfl : k = ds.length := by omega
            have hkI : ¬ ((ds.length : Nat) : Int) < (D.size : Int) := by have := HDS.out; omega
            have hF := HR.out HRN.out
            rw [List.take_length] at hN
            have HBW : Hid (Below w.heap.size w wr) := hb
            have HNN : Hid (N = -(foldU 0 ds : Int)) := hN
            have n1 : -9223372036854775808 ≤ N := by omega
            have n2 : N ≤ 0 := by omega
            skip
            clear hk hb hN hF hlt
            go_wp2_with fail
            go_ret2
            have H := HR.out HRN.out
            have HNv := HNN.out
            refine ⟨_, true, rfl, ⟨fun _ => HRN.out, fun _ => rfl⟩, fun _ => ?_, HBW.out⟩
            rw [H.2]
            omega
    · have q2 : ((D.size : Int) == 19) = false := by simp; omega
      have HRN : Hid (J.Rng (J.intOf (numsOf s))) := by
        refine Classical.not_not.1 fun e => ?_
        rcases HF.out.2 e with h | ⟨h, _⟩
        · exact hA h
        · exact hB h
      clear hA hB hDI hdl hG
      go_enter Tryd.func27, Tryd.ntmps27
      go_wp2_with fail
      go_loopw [7, 8] (fun s7 s8 wr => IntI ds w s7 s8 wr) (fun _ s8 _ => ds.length - (intOf s8).toNat)
      case atStart => exact ⟨0, Nat.zero_le _, rfl, 0, rfl, rfl, Below.refl _ _⟩
      case round =>
        obtain ⟨k, hk, rfl, N, rfl, hN, hb⟩ := hrel
        by_cases hlt : k < ds.length
        · have hkI : (k : Int) < (D.size : Int) := by have := HDS.out; omega
          have hk0 : (0 : Int) ≤ (k : Int) := by omega
          obtain ⟨_, k1, k2⟩ := HX.out k hlt wr
          have hx := fun w' => (HX.out k hlt w').1
          have hnx := foldU_next hlt
          have hle := foldU_take (l := ds) (k := k + 1)
          have hmx := (HR.out HRN.out).1
          obtain ⟨C, hC⟩ : ∃ C : Int, ((ds[k].toNat : Nat) : Int) = C := ⟨_, rfl⟩
          rw [hC] at hx
          have k3 : (48 : Int) ≤ C := by omega
          have k4 : C ≤ 57 := by omega
          have n1 : N ≤ 0 := by omega
          have n2 : -9223372036854775808 ≤ 10 * N - (C - 48) := by omega
          have HN : Hid (10 * N - (C - 48) = -(foldU 0 (ds.take (k + 1)) : Int) ∧ k < ds.length ∧ Below w.heap.size w wr) := ⟨by omega, hlt, hb⟩
          have n3 : -9223372036854775808 ≤ 10 * N := by omega
          have wc : wrap64 (C - 48) = C - 48 := by unfold wrap64; omega
          have HZI : Hid ((k : Int) < 20000) := by have := HZ.out; show _ < _; omega
          have kz : (k : Int) < 20000 := HZI.out
          clear hk hb hN hnx hle hmx k1 k2
          go_wp2_with fail
          go_roundw
          case rel =>
            have H := HN.out
            exact ⟨k + 1, H.2.1, by rw [Int.natCast_add]; rfl, _, rfl, H.1, H.2.2⟩
          case measure => have H := HN.out; simp [intOf]; omega
        · obtain rfl : k = ds.length := by omega
          have hkI : ¬ ((ds.length : Nat) : Int) < (D.size : Int) := by have := HDS.out; omega
          have hF := HR.out HRN.out
          rw [List.take_length] at hN
          have HBW : Hid (Below w.heap.size w wr) := hb
          have HNN : Hid (N = -(foldU 0 ds : Int)) := hN
          have n1 : -9223372036854775808 ≤ N := by omega
          have n2 : N ≤ 0 := by omega
          skip
          clear hk hb hN hF hlt
          go_wp2_with fail
          go_ret2
          have H := HR.out HRN.out
          have HNv := HNN.out
          refine ⟨_, true, rfl, ⟨fun _ => HRN.out, fun _ => rfl⟩, fun _ => ?_, HBW.out⟩
          rw [H.2]
          omega
end Go.Proofs.YtkcmidhpbaepoaaDoor.G
