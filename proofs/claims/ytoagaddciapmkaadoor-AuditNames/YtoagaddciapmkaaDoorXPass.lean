/-
  Pass: the program's.
-/
import Derived.Test.YtoagaddciapmkaaDoorXSeal
import Derived.Lib.ConvBytes
namespace Go.Proofs.YtoagaddciapmkaaDoor
open Go.RowKit Go.WideShapes

theorem conv_str (s : ByteArray) (w : World) : ∃ c w', (convert 9 22 (.string s)).run Tryd.prog w = .ok (.slice (some ⟨w.heap.size, 0, none⟩) s.size c) w' ∧ s.size ≤ c ∧ BIn w' (some ⟨w.heap.size, 0, none⟩) (numsOf s) ∧ Below w.heap.size w w' := by
  refine ⟨_, _, Lib.run_convert_string_bytes (P := Tryd.prog) w 9 22 5 s Tryd.underlying9 Tryd.underlying22 Tryd.underlying5, ?_, ?_, ?_⟩
  · exact grownCap_ge w s.size 0 5
  · refine ⟨fun _ => ⟨w.heap.size, 0, rfl, fun i hi => ?_⟩, numsOf_lt s⟩
    rw [numsOf_len] at hi
    rw [Nat.zero_add, Lib.bytesWorld_cell w 5 s i hi]
    unfold numsOf
    rw [List.getD_eq_getElem?_getD, List.getD_eq_getElem?_getD, List.getElem?_map, List.getElem?_eq_getElem (show i < s.data.toList.length by rw [Array.length_toList]; exact hi)]
    rfl
  · exact ⟨rfl, rfl, rfl, by rw [Lib.bytesWorld_size]; omega, fun k hk => Lib.bytesWorld_at_old w 5 s k hk⟩
theorem below_go2 {a b c : World} (h : Below a.heap.size a b) (k : Below b.heap.size b c) : Below a.heap.size a c :=
  h.trans ⟨k.os, k.tape, k.output, k.size, fun j hj => k.block j (Nat.lt_of_lt_of_le hj h.size)⟩
theorem passN_byte {s b : List Nat} (hb : ∀ x ∈ b, x < 256) : ∀ k, ∀ x ∈ passN s b k, x < 256
  | 0 => hb
  | _ + 1 => sealN_byte _ _
theorem passN_size {s b : List Nat} (hb : b.length ≤ 16384) : ∀ k, (passN s b k).length ≤ 16384
  | 0 => hb
  | k + 1 => by rw [passN_len]; omega
inductive PassI (W : World) (s b : List Nat) (n : Nat) (t v : Value) (wr : World) : Prop where
  | intro (k : Nat) (p : Option Addr) (c : Nat) (hk : k ≤ n) (ht : t = .int .i64 (k : Int)) (hv : v = .slice p (passN s b k).length c) (hc : (passN s b k).length ≤ c) (hb : BIn wr p (passN s b k)) (hB : Below W.heap.size W wr)
theorem pass_long (a b : ByteArray) (t : Int) (w : World) (h : 16384 < a.size ∨ 16384 < b.size) : Calls Tryd.prog 16 #[.string a, .string b, .int .i64 t] w fun e w' => e = .returned (.tuple #[.string ⟨#[]⟩, .int .i64 3]) ∧ w' = w := by
  go_enter Tryd.func16, Tryd.ntmps16
  by_cases h1 : 16384 < a.size
  · have hI : (16384 : Int) < (a.size : Int) := by omega
    go_wp2
    go_ret2
    exact ⟨rfl, rfl⟩
  · have hI : ¬ ((16384 : Int) < (a.size : Int)) := by omega
    have hJ : (16384 : Int) < (b.size : Int) := by omega
    go_wp2
    go_ret2
    exact ⟨rfl, rfl⟩
theorem pass_times (a b : ByteArray) (t : Int) (w : World) (h1 : a.size ≤ 16384) (h2 : b.size ≤ 16384) (h : t < 1 ∨ 64 < t) : Calls Tryd.prog 16 #[.string a, .string b, .int .i64 t] w fun e w' => e = .returned (.tuple #[.string ⟨#[]⟩, .int .i64 2]) ∧ w' = w := by
  go_enter Tryd.func16, Tryd.ntmps16
  have hI : ¬ ((16384 : Int) < (a.size : Int)) := by omega
  have hJ : ¬ ((16384 : Int) < (b.size : Int)) := by omega
  by_cases h3 : t < 1
  · go_wp2
    go_ret2
    exact ⟨rfl, rfl⟩
  · have h4 : (64 : Int) < t := by omega
    go_wp2
    go_ret2
    exact ⟨rfl, rfl⟩
set_option maxHeartbeats 2000000 in
set_option maxRecDepth 100000 in
theorem pass_ok (a b : ByteArray) (n : Nat) (w : World) (hk : KOn w) (h1 : a.size ≤ 16384) (h2 : b.size ≤ 16384) (hn1 : 1 ≤ n) (hn2 : n ≤ 64) :
    Calls Tryd.prog 16 #[.string a, .string b, .int .i64 (n : Int)] w fun e w' => e = .returned (.tuple #[.string (strOf (hexN (passN (numsOf a) (numsOf b) n))), .int .i64 0]) ∧ Below w.heap.size w w' := by
  have hI : ¬ ((16384 : Int) < (a.size : Int)) := by omega
  have hJ : ¬ ((16384 : Int) < (b.size : Int)) := by omega
  have hT1 : ¬ ((n : Int) < 1) := by omega
  have hT2 : ¬ ((64 : Int) < (n : Int)) := by omega
  obtain ⟨c1, w1, r1, hc1, i1, B1⟩ := conv_str a w
  obtain ⟨c2, w2, r2, hc2, i2, B2⟩ := conv_str b w1
  have BW := below_go2 B1 B2
  have hla := numsOf_len a
  have hlb := numsOf_len b
  have hbb := numsOf_lt b
  have i1' := i1.below B2
  go_enter Tryd.func16, Tryd.ntmps16
  go_wp2
  go_loopw [30, 9] (fun t v wr => PassI w2 (numsOf a) (numsOf b) n t v wr) (fun t _ _ => n - (intOf t).toNat)
  case atStart => exact ⟨0, _, c2, by omega, rfl, by show _ = Value.slice _ (numsOf b).length c2; rw [hlb], by show (numsOf b).length ≤ c2; rw [hlb]; exact hc2, i2, Below.refl _ _⟩
  case round =>
    obtain ⟨k, p, c, hkn, rfl, rfl, hc, hb, hB⟩ := hrel
    by_cases hlt : k < n
    · have hsz := passN_size (s := numsOf a) (b := numsOf b) (by omega) k
      have BWr := below_go2 BW hB
      have SE := sealed_any (some ⟨w.heap.size, 0, none⟩) p c1 c (numsOf a) (passN (numsOf a) (numsOf b) k) wr (hk.below BWr hk.pos) (i1'.below hB) (by rw [hla]; exact hc1) hb hc (by omega) (by omega)
      rw [← passN_more, hla] at SE
      have hSl := passN_len (numsOf a) (numsOf b) k
      have hSb := passN_byte (s := numsOf a) hbb (k + 1)
      obtain ⟨D, hD⟩ : ∃ D, passN (numsOf a) (numsOf b) (k + 1) = D := ⟨_, rfl⟩
      rw [hD] at SE hSl hSb
      have HD : Hid _ := hD
      have hDs : (Tryd.prog.info? 23).map (·.size) = some (Bs D).toArray.size := by rw [size_dig]; simp [Bs, hSl]
      have hkI : (k : Int) < (n : Int) := by omega
      have Hb : Hid _ := hb
      clear hD hb r1 r2
      go_wp2_with fail
      refine SE.mono ?_
      rintro e w3 ⟨rfl, hb3⟩
      simp only []
      go_step
      go_step
      go_step
      go_step
      refine wpList_store_row rfl 23 (.tmp 10) (.tmp 34) rfl w3.heap.size (Bs D).toArray (by rfl) (by rfl) 23 _ (_root_.Go.heap_alloc_new _ _) hDs (by simp [Bs, hSl]) (one_cell_bs _) ?_
      rw [World.setRow_alloc_new]
      have B4 : Below w2.heap.size w2 (w3.alloc (Obj.cells (Bs D).toArray 23)) := (below_go2 hB hb3).alloc (below_go2 hB hb3).size _
      have BD : BIn (w3.alloc (Obj.cells (Bs D).toArray 23)) (some ⟨w3.heap.size, 0, none⟩) D := bin_dig (_root_.Go.heap_alloc_new _ _) hSb
      have hsl := slice_dig w3.heap.size
      generalize w3.heap.size = g3 at BD hsl ⊢
      generalize w3.alloc (Obj.cells (Bs D).toArray 23) = W4 at BD B4 ⊢
      clear hb3 SE
      simp only [Act.put]
      go_wp2
      go_roundw
      case rel =>
        refine ⟨k + 1, some ⟨g3, 0, none⟩, 32, by omega, rfl, by rw [HD.out, hSl], by rw [HD.out, hSl]; exact Nat.le_refl _, by rw [HD.out]; exact BD, B4⟩
      case measure => simp [intOf]; omega
    · obtain rfl : k = n := by omega
      have HX := hex_any p c (passN (numsOf a) (numsOf b) k) wr hb (Nat.le_trans (passN_size (by omega) k) (by decide))
      have Hb : Hid _ := hb
      clear hb r1 r2
      obtain ⟨D, hD⟩ : ∃ D, passN (numsOf a) (numsOf b) k = D := ⟨_, rfl⟩
      have HD : Hid _ := hD
      rw [hD] at HX hc ⊢
      clear hD
      go_wp2_with (go_at_call 22; refine HX.mono ?_; rintro e w3 ⟨rfl, hb3⟩)
      go_ret2
      rw [HD.out]
      exact ⟨rfl, below_go2 (below_go2 BW hB) hb3⟩
end Go.Proofs.YtoagaddciapmkaaDoor
