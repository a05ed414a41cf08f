/-
  Lists of parts are compared, and what is behind a key is told, as the document says, at any two lists and any text (of lists of more than 100 parts and texts of more than 10,000 bytes the statement asks nothing).
-/
import Derived.Test.YthebnealkekdmaaJ02
import Derived.Test.YthebnealkekdmaaJ03
import Derived.Lib.ConvBytes
import Derived.Shelf.Strings.Builder1
import Derived.Shelf.Small.Strs
import Derived.Shelf.Strings.BuilderF
import Derived.Shelf.Strings.BuilderK
import Derived.Shelf.Strings.Search1
import Derived.Shelf.Strings.Search2
import Derived.Shelf.Strings.Search3
import Derived.Shelf.Strings.Cut
import Derived.Shelf.Strings.Count
import Derived.Shelf.LaysM
import Derived.Shelf.Strings.Shaped
import Derived.Test.YthebnealkekdmaaProg
import Derived.Laws.Externs
import Derived.Test.YthebnealkekdmaaRows
import Derived.WalkKit
import Derived.ProofKit
import Derived.OpenShut
import Derived.ShutString
import Derived.ChangeOld
import Derived.Below
namespace Go.Proofs.Ythebnealkekdmaa
open Go.RowKit Go.WideShapes

def afterR (s : ByteArray) : ByteArray × Bool := match afterN (numsOf s) with
  | some x => (strOf x, true)
  | none => (ByteArray.empty, false)
theorem afterR_no {s : ByteArray} (h : ∀ c ∈ numsOf s, c = 255) : afterR s = (ByteArray.empty, false) := by
  unfold afterR; rw [afterN_all _ h]
theorem afterR_at {s : ByteArray} {k c : Nat} (hk : k < s.size) (hc : (numsOf s).getD k 0 = c) (h1 : c ≠ 255) (h2 : ∀ c ∈ (numsOf s).drop (k + 1), c = 255) : afterR s = (strOf ((numsOf s).take k ++ [c + 1]), true) := by
  subst hc
  unfold afterR; rw [afterN_at _ k (by rw [numsOf_len]; exact hk) h1 h2]
theorem nums_at {s : ByteArray} {j : Nat} (hj : j < s.size) : (numsOf s).getD j 0 = (s[j]'hj).toNat := by
  unfold numsOf
  have : j < s.data.toList.length := by rw [Array.length_toList]; exact hj
  rw [List.getD_eq_getElem?_getD, List.getElem?_map, List.getElem?_eq_getElem this]
  simp
  rfl
theorem conv_at {w : World} {p : Option Addr} {xs : List Nat} {n c : Nat} (h : BIn w p xs) (hn : n = xs.length) : (convert 36 9 (.slice p n c)).run Try.prog w = .ok (.string (strOf xs)) w := bin_conv Try.underlying36 Try.underlying5 Try.underlying9 h hn c
theorem numsOf_extract (r : ByteArray) (a b : Nat) : numsOf (r.extract a b) = ((numsOf r).drop a).take (b - a) := by
  unfold numsOf
  rw [ByteArray.data_extract, Array.toList_extract]
  simp [List.map_drop, List.map_take]
/-- The bytes of a text as a new row. -/
theorem made_bytes (s : ByteArray) (n : Nat) (w : World) (hn : s.size = n) (h0 : 0 < n) : ∃ W cap, (convert 9 36 (.string s)).run Try.prog w = .ok (.slice (some ⟨w.heap.size, 0, none⟩) n cap) W ∧ Below w.heap.size w W ∧ BIn W (some ⟨w.heap.size, 0, none⟩) (numsOf s) ∧ (∀ i, i < n → W.frozen? ⟨w.heap.size, i, none⟩ = false) := by
  subst hn
  refine ⟨_, _, Lib.run_convert_string_bytes w 9 36 5 s Try.underlying9 Try.underlying36 Try.underlying5, ⟨rfl, rfl, rfl, ?_, fun k hk => Lib.bytesWorld_at_old w 5 s k hk⟩, ⟨fun _ => ⟨w.heap.size, 0, rfl, fun i hi => ?_⟩, numsOf_lt s⟩, fun i hi => ?_⟩
  · rw [Lib.bytesWorld_size]; omega
  · rw [numsOf_len] at hi
    rw [Nat.zero_add, Lib.bytesWorld_cell w 5 s i hi]
    unfold numsOf
    simp [List.getD, hi]
  · have h := Lib.bytesWorld_at_new w 5 s
    have hsz : i < (Lib.bytesCells w 5 s).size := by unfold Lib.bytesCells; simp; omega
    simp [World.frozen?, h]
    omega
theorem set_last {W : World} {g j c : Nat} {xs : List Nat} (h : BIn W (some ⟨g, 0, none⟩) xs) (hl : xs.length = j + 1) (hc : c < 256) : BIn (W.setCell ⟨g, j, none⟩ (.int .u8 c)) (some ⟨g, 0, none⟩) (xs.take j ++ [c]) := by
  refine ⟨fun _ => ⟨g, 0, rfl, fun i hi => ?_⟩, fun x hx => ?_⟩
  · have hi' : i < j + 1 := by simp at hi; omega
    have h1 := h.cell i (by omega)
    by_cases e : i = j
    · subst e
      rw [Nat.zero_add] at h1 ⊢
      rw [World.cell?_setCell_same _ _ _ h1]
      simp [List.getD, hl]
    · rw [World.cell?_setCell_other _ _ _ _ (by intro hh; simp only [Addr.mk.injEq] at hh; omega), h1]
      have : i < j := by omega
      rw [List.getD_eq_getElem?_getD, List.getD_eq_getElem?_getD, List.getElem?_append_left (by rw [List.length_take]; omega), List.getElem?_take_of_lt this]
  · rcases List.mem_append.1 hx with h2 | h2
    · exact h.2 x (List.mem_of_mem_take h2)
    · simp at h2; omega
set_option maxRecDepth 8000 in
set_option maxHeartbeats 4000000 in
theorem rAfter_any (s : ByteArray) (w : World) (hs : (s.size : Int) ≤ 10000) (t : ByteArray) (r : Bool) (hR : afterR s = (t, r)) :
    Calls Try.prog 19 #[.string s] w fun e w' => e = .returned (.tuple #[.string t, .bool r]) ∧ Below w.heap.size w w' := by
  have HR : Hid (afterR s = (t, r)) := hR
  clear hR
  go_enter Try.func19, Try.ntmps19
  go_wp2
  go_loop [4] (fun i => ∃ k : Nat, k ≤ s.size ∧ i = .int .i64 k ∧ Hid (∀ c ∈ (numsOf s).drop k, c = 255)) (fun i => (intOf i).toNat)
  case atStart => exact ⟨s.size, Nat.le_refl _, rfl, fun c hc => by rw [List.drop_eq_nil_of_le (by rw [numsOf_len]; omega)] at hc; simp at hc⟩
  case round =>
    obtain ⟨k, hk, rfl, hall⟩ := hrel
    by_cases hk0 : k = 0
    · subst hk0
      go_wp2
      go_ret2
      rw [afterR_no hall.out] at HR
      have := HR.out
      simp only [Prod.mk.injEq] at this
      obtain ⟨rfl, rfl⟩ := this
      exact ⟨rfl, Below.refl _ _⟩
    · obtain ⟨j, rfl⟩ : ∃ j, k = j + 1 := ⟨k - 1, by omega⟩
      have k1 : IntKind.i64.wrap (((j + 1 : Nat) : Int) - 1) = (j : Int) := by rw [IntKind.wrap_i64]; omega
      have g0 : (0 : Int) < ((j + 1 : Nat) : Int) := by omega
      have hj : (j : Int) < (s.size : Int) := by omega
      have hj' : j < s.size := by omega
      obtain ⟨c, hc⟩ : ∃ c, (s[j]'hj').toNat = c := ⟨_, rfl⟩
      have HC : Hid ((numsOf s).getD j 0 = c) := (nums_at hj').trans hc
      have hc256 : c < 256 := by rw [← hc]; exact UInt8.toNat_lt _
      have k2 : ((j : Int) + 1).toNat = j + 1 := by omega
      by_cases h255 : c = 255
      · have g1 : ((c : Int) == 255) = true := by simp [h255]
        have HD : Hid (∀ c ∈ (numsOf s).drop j, c = 255) := by
          intro x hx
          rw [drop_cons' (d := 0) (by rw [numsOf_len]; exact hj'), List.mem_cons] at hx
          rcases hx with rfl | hx
          · rw [HC.out]; exact h255
          · exact hall.out x hx
        clear h255
        go_wp2
        go_round
        case rel => exact ⟨j, by omega, rfl, HD⟩
        case measure => simp [intOf]
      · have g1 : ((c : Int) == 255) = false := by simp; omega
        have HA : Hid (t = strOf ((numsOf s).take j ++ [c + 1]) ∧ r = true) := by
          have := HR.out
          rw [afterR_at hj' HC.out h255 hall.out] at this
          simp only [Prod.mk.injEq] at this
          exact ⟨this.1.symm, this.2.symm⟩
        have hex : (s.extract 0 (j + 1)).size = j + 1 := by simp [ByteArray.size_extract]; omega
        obtain ⟨W, cap, hcv, hbel, hin, hfz⟩ := made_bytes (s.extract 0 (j + 1)) (j + 1) w hex (by omega)
        rw [numsOf_extract] at hin
        have hin' : BIn W (some ⟨w.heap.size, 0, none⟩) ((numsOf s).take (j + 1)) := hin
        have hl : ((numsOf s).take (j + 1)).length = j + 1 := by rw [List.length_take, numsOf_len]; omega
        have h1 := hin'.cell j (by omega)
        have hgc : ((numsOf s).take (j + 1)).getD j 0 = c := by rw [← HC.out]; simp [List.getD]
        rw [hgc, Nat.zero_add] at h1
        have h2 := hfz j (by omega)
        have hlast := set_last (c := c + 1) hin' hl (by omega)
        rw [List.take_take, Nat.min_eq_left (by omega)] at hlast
        have hcv2 : (convert 36 9 (.slice (some ⟨w.heap.size, 0, none⟩) (j + 1) cap)).run Try.prog (W.setCell ⟨w.heap.size, j, none⟩ (.int .u8 ((c : Int) + 1))) = .ok (.string (strOf ((numsOf s).take j ++ [c + 1]))) (W.setCell ⟨w.heap.size, j, none⟩ (.int .u8 ((c : Int) + 1))) := conv_at hlast (by rw [List.length_append, List.length_take, numsOf_len]; simp; omega)
        have k3 : IntKind.u8.wrap ((c : Int) + 1) = (c : Int) + 1 := by rw [IntKind.wrap_u8']; omega
        have HBL : Hid (Below w.heap.size w (W.setCell ⟨w.heap.size, j, none⟩ (.int .u8 ((c : Int) + 1)))) := hbel.setCell (Nat.le_refl _) _
        clear hin hin' hlast hfz hbel hl hgc h255 hex
        go_wp2
        go_ret2
        exact ⟨by rw [HA.out.1, HA.out.2]; rfl, HBL.out⟩
end Go.Proofs.Ythebnealkekdmaa
namespace Go.Proofs.Ythebnealkekdmaa
open Go.Shelf Go.RowKit
def lays169_ren : Go.Shelf.Ren := ⟨fun | 169 => 26 | n => n, fun | 70 => 49 | 9 => 9 | 0 => 0 | 72 => 51 | 37 => 36 | 127 => 71 | 3 => 3 | 5 => 5 | n => n, fun | n => n⟩
theorem lays169 : Go.Proofs.Lays.n169 Try.prog lays169_ren := {
  mixed := by kernel_rfl
  f169 := Try.func26.trans (congrArg some (by kernel_rfl))
  t0 := Try.underlying0
  a0 := Try.isAgg0
  z0 := Try.sizeOf0
  v0 := Try.zeroValue0
  t3 := Try.underlying3
  a3 := Try.isAgg3
  z3 := Try.sizeOf3
  v3 := Try.zeroValue3
  t9 := Try.underlying9
  a9 := Try.isAgg9
  z9 := Try.sizeOf9
  v9 := Try.zeroValue9
  t37 := Try.underlying36
  a37 := Try.isAgg36
  z37 := Try.sizeOf36
  v37 := Try.zeroValue36
  t70 := Try.underlying49
  a70 := Try.isAgg49
  z70 := Try.sizeOf49
  v70 := Try.zeroValue49
  t72 := Try.underlying51
  a72 := Try.isAgg51
  z72 := Try.sizeOf51
  v72 := Try.zeroValue51
  t127 := Try.underlying71
  a127 := Try.isAgg71
  z127 := Try.sizeOf71
  v127 := Try.zeroValue71 }
theorem Builder_Extra_169 : Builder.Extra Try.prog lays169_ren := {
  sizeBuilder := by kernel_rfl
  liesBuilder := by kernel_rfl
  t5 := Try.underlying5
  a5 := Try.isAgg5
  z5 := Try.sizeOf5
  v5 := Try.zeroValue5
  infoByte := by kernel_rfl
  cellsByte := by kernel_rfl
  sizeByte := by kernel_rfl
  neB5 := by decide }
theorem Builder_String_any (B b : Nat) (l : List UInt8) (w : World) (h : Lib.IsBuilder 51 5 B b (Lib.byteCells l) w) (hBw : B ≤ w.heap.size) :
    Calls Try.prog 26 #[.pointer (some ⟨b, 0, none⟩)] w fun e w' => e = .returned (.string ⟨l.toArray⟩) ∧ Below B w w' := Any.Builder_String_any lays169 Builder_Extra_169 B b l w h hBw
def lays145_ren : Go.Shelf.Ren := ⟨fun | 145 => 61 | 220 => 66 | 219 => 62 | 217 => 67 | 225 => 68 | 224 => 69 | 267 => 70 | 266 => 71 | 314 => 72 | n => n, fun | 9 => 9 | 4 => 4 | 59 => 91 | 3 => 3 | 5 => 5 | 46 => 97 | 146 => 99 | 51 => 98 | n => n, fun | 1 => 0 | n => n⟩
theorem lays145 : Go.Proofs.Lays.n145 Try.prog lays145_ren := {
  mixed := by kernel_rfl
  f145 := Try.func61.trans (congrArg some (by kernel_rfl))
  f217 := Try.func67.trans (congrArg some (by kernel_rfl))
  f219 := Try.func62.trans (congrArg some (by kernel_rfl))
  f220 := Try.func66.trans (congrArg some (by kernel_rfl))
  f224 := Try.func69.trans (congrArg some (by kernel_rfl))
  f225 := Try.func68.trans (congrArg some (by kernel_rfl))
  f266 := Try.func71.trans (congrArg some (by kernel_rfl))
  f267 := Try.func70.trans (congrArg some (by kernel_rfl))
  f314 := Try.func72.trans (congrArg some (by kernel_rfl))
  t3 := Try.underlying3
  a3 := Try.isAgg3
  z3 := Try.sizeOf3
  v3 := Try.zeroValue3
  t4 := Try.underlying4
  a4 := Try.isAgg4
  z4 := Try.sizeOf4
  v4 := Try.zeroValue4
  t5 := Try.underlying5
  a5 := Try.isAgg5
  z5 := Try.sizeOf5
  v5 := Try.zeroValue5
  t9 := Try.underlying9
  a9 := Try.isAgg9
  z9 := Try.sizeOf9
  v9 := Try.zeroValue9
  t46 := Try.underlying97
  a46 := Try.isAgg97
  z46 := Try.sizeOf97
  v46 := Try.zeroValue97
  t51 := Try.underlying98
  a51 := Try.isAgg98
  z51 := Try.sizeOf98
  v51 := Try.zeroValue98
  t59 := Try.underlying91
  a59 := Try.isAgg91
  z59 := Try.sizeOf91
  v59 := Try.zeroValue91
  t146 := Try.underlying99
  a146 := Try.isAgg99
  z146 := Try.sizeOf99
  v146 := Try.zeroValue99
  g1 := by kernel_rfl }
theorem strings_Cut (s sep : ByteArray) (m : Int) (w : World) (hs : s.size < 4294967281) (hm : w.cell? ⟨0, 0, none⟩ = some (.int .i64 m)) :
    Calls Try.prog 61 #[.string s, .string sep] w fun e w' => e = .returned (.tuple #[.string ⟨(Lib.cut s.data.toList sep.data.toList).1.toArray⟩, .string ⟨(Lib.cut s.data.toList sep.data.toList).2.1.toArray⟩, .bool (Lib.cut s.data.toList sep.data.toList).2.2]) ∧ ∃ n, w' = w.drewN n := Any.strings_Cut lays145 s sep m w hs hm
def lays138_ren : Go.Shelf.Ren := ⟨fun | 138 => 37 | 195 => 49 | 218 => 50 | 143 => 51 | 219 => 62 | 217 => 67 | 225 => 68 | 224 => 69 | 267 => 70 | 266 => 71 | 314 => 72 | n => n, fun | 9 => 9 | 3 => 3 | 4 => 4 | 5 => 5 | 0 => 0 | 46 => 97 | 146 => 99 | 51 => 98 | n => n, fun | 1 => 0 | n => n⟩
theorem lays138 : Go.Proofs.Lays.n138 Try.prog lays138_ren := {
  mixed := by kernel_rfl
  f138 := Try.func37.trans (congrArg some (by kernel_rfl))
  f143 := Try.func51.trans (congrArg some (by kernel_rfl))
  f195 := Try.func49.trans (congrArg some (by kernel_rfl))
  f217 := Try.func67.trans (congrArg some (by kernel_rfl))
  f218 := Try.func50.trans (congrArg some (by kernel_rfl))
  f219 := Try.func62.trans (congrArg some (by kernel_rfl))
  f224 := Try.func69.trans (congrArg some (by kernel_rfl))
  f225 := Try.func68.trans (congrArg some (by kernel_rfl))
  f266 := Try.func71.trans (congrArg some (by kernel_rfl))
  f267 := Try.func70.trans (congrArg some (by kernel_rfl))
  f314 := Try.func72.trans (congrArg some (by kernel_rfl))
  t0 := Try.underlying0
  a0 := Try.isAgg0
  z0 := Try.sizeOf0
  v0 := Try.zeroValue0
  t3 := Try.underlying3
  a3 := Try.isAgg3
  z3 := Try.sizeOf3
  v3 := Try.zeroValue3
  t4 := Try.underlying4
  a4 := Try.isAgg4
  z4 := Try.sizeOf4
  v4 := Try.zeroValue4
  t5 := Try.underlying5
  a5 := Try.isAgg5
  z5 := Try.sizeOf5
  v5 := Try.zeroValue5
  t9 := Try.underlying9
  a9 := Try.isAgg9
  z9 := Try.sizeOf9
  v9 := Try.zeroValue9
  t46 := Try.underlying97
  a46 := Try.isAgg97
  z46 := Try.sizeOf97
  v46 := Try.zeroValue97
  t51 := Try.underlying98
  a51 := Try.isAgg98
  z51 := Try.sizeOf98
  v51 := Try.zeroValue98
  t146 := Try.underlying99
  a146 := Try.isAgg99
  z146 := Try.sizeOf99
  v146 := Try.zeroValue99
  g1 := by kernel_rfl }
theorem strings_Count_one (s : ByteArray) (c : UInt8) (w : World) :
    Calls Try.prog 37 #[.string s, .string ⟨#[c]⟩] w fun e w' => e = .returned (.int .i64 (Lib.countByte s.data.toList c)) ∧ w' = w := Any.strings_Count_one lays138 s c w
end Go.Proofs.Ythebnealkekdmaa
namespace Go.Proofs.Ythebnealkekdmaa
open Go.RowKit Go.WideShapes

theorem builder_info : ∃ j, Try.prog.info? 51 = some j ∧ j.size ≠ 0 := by
  have h : ((Try.prog.info? 51).map fun j => decide (j.size ≠ 0)) = some true := by kernel_rfl
  obtain ⟨j, hj, hs⟩ := Option.map_eq_some_iff.1 h
  exact ⟨j, hj, of_decide_eq_true hs⟩
theorem builder_lies : liesAt Try.prog Try.prog.depth 51 (2 / Try.prog.cellsOf 51) 0 51 1 = true := by kernel_rfl
abbrev Bld (B b : Nat) (xs : List Nat) (w : World) : Prop := Lib.IsBuilder 51 5 B b (Bs xs) w
set_option maxHeartbeats 1000000 in
set_option maxRecDepth 100000 in
theorem copyCheck_used (b : Nat) (w : World) (h0 : w.cell? ⟨b, 0, none⟩ = some (.pointer (some ⟨b, 0, none⟩))) :
    Calls Try.prog 40 #[.pointer (some ⟨b, 0, none⟩)] w fun e w' => e = .returned (.tuple #[]) ∧ w' = w := by
  obtain ⟨j, hj, _⟩ := builder_info
  go_enter Try.func40, Try.ntmps40
  go_wp2
  rw [Lib.run_neq_ptr_same w _ Try.underlying49 hj]
  go_wp2
  go_end0
  exact ⟨rfl, rfl⟩
set_option maxHeartbeats 1000000 in
set_option maxRecDepth 100000 in
theorem copyCheck_fresh (b : Nat) (w : World) (h0 : w.cell? ⟨b, 0, none⟩ = some (.pointer none)) (hsh : w.shape? b = some (51, 2)) (hfz : w.frozen? ⟨b, 0, none⟩ = false) :
    Calls Try.prog 40 #[.pointer (some ⟨b, 0, none⟩)] w fun e w' => e = .returned (.tuple #[]) ∧ w' = w.setCell ⟨b, 0, none⟩ (.pointer (some ⟨b, 0, none⟩)) := by
  obtain ⟨j, hj, hjs⟩ := builder_info
  go_enter Try.func40, Try.ntmps40
  go_wp2
  rw [Lib.run_to_unsafe w ⟨b, 0, none⟩ Try.underlying49 Try.underlying84 hj hjs hsh (Nat.zero_lt_succ 1)]
  simp only [Result.andThen]
  rw [Oper.upon_value]
  go_wp2
  rw [run_callFunc_extern Try.func56 (by kernel_rfl) (by kernel_rfl) (by kernel_rfl) (e := Extern.AbiNoEscape.same) (by kernel_rfl)]
  rw [Lib.run_noEscape]
  simp only [Result.andThen]
  rw [Oper.upon_value]
  go_wp2
  rw [Lib.run_from_unsafe w ⟨b, 0, none⟩ Try.underlying84 Try.underlying49 hj hsh builder_lies]
  simp only [Result.andThen]
  rw [Oper.upon_value]
  go_wp2
  go_end0
  exact ⟨rfl, rfl⟩
theorem copyCheck_any (B b : Nat) (xs : List Nat) (w : World) (h : Bld B b xs w) :
    Calls Try.prog 40 #[.pointer (some ⟨b, 0, none⟩)] w fun e w' => e = .returned (.tuple #[]) ∧ (Lib.BuilderAt 51 5 B b (.pointer (some ⟨b, 0, none⟩)) (Bs xs) w' ∧ Below B w w') := by
  rcases h with h | h
  · refine (copyCheck_fresh b w h.cell0 h.shape h.frozen0).mono ?_
    rintro e w' ⟨rfl, rfl⟩
    exact ⟨rfl, h.used _, (Below.refl B w).setCell (p := ⟨b, 0, none⟩) h.1 _⟩
  · refine (copyCheck_used b w h.cell0).mono ?_
    rintro e w' ⟨rfl, rfl⟩
    exact ⟨rfl, h, Below.refl B _⟩
theorem bld_put {B b : Nat} {v v' : Value} {ys : List Nat} {w1 w2 : World} (hB : B ≤ b) (hbk : w1.heap[b]? = some (.cells #[.pointer (some ⟨b, 0, none⟩), v] 51 (0, 0))) (hne : v.ownBlock ≠ some b) (hg : w1.grownBy w2 v.ownBlock) (ho : w2.ownsRow B 5 1 v' (Bs ys).length (Bs ys)) : w2.heap[b]? = some (.cells #[.pointer (some ⟨b, 0, none⟩), v] 51 (0, 0)) ∧ Bld B b ys (w2.setCell ⟨b, 1, none⟩ v') := by
  have hlt : b < w1.heap.size := lt_heap hbk
  have hb2 : w2.heap[b]? = some (.cells #[.pointer (some ⟨b, 0, none⟩), v] 51 (0, 0)) := by
    rw [hg.block b hlt (fun e => hne e.symm)]
    exact hbk
  exact ⟨hb2, .inr (Lib.BuilderAt.put hB hb2 ho (by decide))⟩
set_option maxHeartbeats 2000000 in
set_option maxRecDepth 100000 in
theorem writeString_any (B b : Nat) (xs : List Nat) (s : ByteArray) (w : World) (h : Bld B b xs w) (hlen : xs.length + s.size ≤ 140737488355328) (hBw : B ≤ w.heap.size) :
    Calls Try.prog 27 #[.pointer (some ⟨b, 0, none⟩), .string s] w fun e w' => e = .returned (.tuple #[.int .i64 s.size, .nilIface]) ∧ Bld B b (xs ++ numsOf s) w' ∧ Below B w w' := by
  obtain ⟨i0, hi, hz0, hz1, hz2⟩ := info_parts info5
  have HL : Hid (xs.length + s.size ≤ 140737488355328) := hlen
  clear hlen
  go_enter Try.func27, Try.ntmps27
  go_wp2_with (go_at_call 40; refine (copyCheck_any B b xs _ h).mono ?_)
  rintro e w1 ⟨rfl, h1, hb1⟩
  obtain ⟨hB, v, hbk, hown, hne⟩ := h1
  have c0 : w1.cell? ⟨b, 0, none⟩ = some (.pointer (some ⟨b, 0, none⟩)) := by rw [Lib.cell_of_heap hbk]; rfl
  have c1 : w1.cell? ⟨b, 1, none⟩ = some v := by rw [Lib.cell_of_heap hbk]; rfl
  go_wp2_with (at_builtin; go_loud (refine Lib.wpList_append_own_string _ rfl _ _ 36 9 rfl B 5 i0 Try.underlying36 Try.underlying9 hi hz0 hz1 hz2 _ _ _ rfl hown s rfl ?c3 ?c4 ?c5 ?_))
  case c3 => have := HL.out; unfold maxLen; simp [Bs]; omega
  case c4 => have := HL.out; simp [Bs]; omega
  case c5 => have := hb1.size; omega
  intro v' w2 hown' hgrow _
  have hown2 : w2.ownsRow B 5 1 v' (Bs (xs ++ numsOf s)).length (Bs (xs ++ numsOf s)) := by
    rw [Bs_app, ← strCells_Bs]
    simpa [Lib.strCells_length] using hown'
  obtain ⟨hb2, hnew⟩ := bld_put hB hbk hne hgrow hown2
  have d0 : w2.cell? ⟨b, 0, none⟩ = some (.pointer (some ⟨b, 0, none⟩)) := by rw [Lib.cell_of_heap hb2]; rfl
  have d1 : w2.cell? ⟨b, 1, none⟩ = some v := by rw [Lib.cell_of_heap hb2]; rfl
  have f1 : w2.frozen? ⟨b, 1, none⟩ = false := Lib.frozen_of_heap hb2 1
  obtain ⟨ao, n', cap, rfl⟩ : ∃ ao n' cap, v' = .slice ao n' cap := by
    rcases hown'.2 with ⟨hv, _⟩ | ⟨g, cap, cur, hv, _⟩
    · exact ⟨_, _, _, hv⟩
    · exact ⟨_, _, _, hv⟩
  have HNEW : Hid (Bld B b (xs ++ numsOf s) (w2.setCell ⟨b, 1, none⟩ (.slice ao n' cap))) := hnew
  clear hnew
  go_wp2
  go_ret2
  exact ⟨rfl, HNEW.out, (hb1.grown hgrow (by have := hb1.size; omega) (fun k hk => (hown.lt k hk).1)).setCell (p := ⟨b, 1, none⟩) hB _⟩
set_option maxHeartbeats 2000000 in
set_option maxRecDepth 100000 in
theorem writeByte_any (B b : Nat) (xs : List Nat) (c : Nat) (w : World) (h : Bld B b xs w) (hlen : xs.length + 1 ≤ 140737488355328) (hBw : B ≤ w.heap.size) (hc : c < 256) :
    Calls Try.prog 28 #[.pointer (some ⟨b, 0, none⟩), .int .u8 c] w fun e w' => e = .returned .nilIface ∧ Bld B b (xs ++ [c]) w' ∧ Below B w w' := by
  have HL : Hid (xs.length + 1 ≤ 140737488355328 ∧ c < 256) := ⟨hlen, hc⟩
  clear hlen hc
  go_enter Try.func28, Try.ntmps28
  go_wp2_with (go_at_call 40; refine (copyCheck_any B b xs _ h).mono ?_)
  rintro e w1 ⟨rfl, h1, hb1⟩
  obtain ⟨hB, v, hbk, hown, hne⟩ := h1
  have c0 : w1.cell? ⟨b, 0, none⟩ = some (.pointer (some ⟨b, 0, none⟩)) := by rw [Lib.cell_of_heap hbk]; rfl
  have c1 : w1.cell? ⟨b, 1, none⟩ = some v := by rw [Lib.cell_of_heap hbk]; rfl
  have hsz1 := hb1.size
  have hownA : (w1.alloc (.cells #[.int .u8 c] 5)).ownsRow B 5 1 v xs.length (Bs xs) := by have := hown.alloc (.cells #[.int .u8 c] 5); simpa [Bs] using this
  have hbkA : (w1.alloc (.cells #[.int .u8 c] 5)).heap[b]? = some (.cells #[.pointer (some ⟨b, 0, none⟩), v] 51 (0, 0)) := (Lib.alloc_old w1 _ b (lt_heap hbk)).trans hbk
  go_wp2_with (at_builtin; go_loud (refine wpList_append_bytes _ rfl _ _ rfl B _ xs [c] (some ⟨w1.heap.size, 0, none⟩) _ 1 rfl rfl rfl hownA (bin_lit w1 _ _ 5 (0, 0) [c] rfl (by simp [Bs]) (by simp; exact HL.out.2)) (fun h => by cases h) (by have := HL.out; simp; omega) (by simp; omega) ?_))
  intro v' w2 hown' hgrow
  have hown2 : w2.ownsRow B 5 1 v' (Bs (xs ++ [c])).length (Bs (xs ++ [c])) := by rw [show (Bs (xs ++ [c])).length = xs.length + 1 by simp [Bs]]; exact hown'
  obtain ⟨hb2, hnew⟩ := bld_put hB hbkA hne hgrow hown2
  have d0 : w2.cell? ⟨b, 0, none⟩ = some (.pointer (some ⟨b, 0, none⟩)) := by rw [Lib.cell_of_heap hb2]; rfl
  have d1 : w2.cell? ⟨b, 1, none⟩ = some v := by rw [Lib.cell_of_heap hb2]; rfl
  have f1 : w2.frozen? ⟨b, 1, none⟩ = false := Lib.frozen_of_heap hb2 1
  obtain ⟨ao, n', cap, rfl⟩ : ∃ ao n' cap, v' = .slice ao n' cap := by
    rcases hown'.2 with ⟨hv, _⟩ | ⟨g, cap, cur, hv, _⟩
    · exact ⟨_, _, _, hv⟩
    · exact ⟨_, _, _, hv⟩
  have HNEW : Hid (Bld B b (xs ++ [c]) (w2.setCell ⟨b, 1, none⟩ (.slice ao n' cap))) := hnew
  clear hnew
  go_wp2
  go_ret
  exact ⟨rfl, HNEW.out, ((hb1.alloc (by omega) _).grown hgrow (by simp; omega) (fun k hk => (hown.lt k hk).1)).setCell (p := ⟨b, 1, none⟩) hB _⟩
theorem bytes_Bs : ∀ (xs : List Nat), (∀ c ∈ xs, c < 256) → Lib.byteCells (xs.map UInt8.ofNat) = Bs xs := by
  intro xs h
  unfold Lib.byteCells Bs
  rw [List.map_map]
  apply List.map_congr_left
  intro c hc
  have := h c hc
  simp
  omega
theorem string_any (B b : Nat) (xs : List Nat) (w : World) (h : Bld B b xs w) (hx : ∀ c ∈ xs, c < 256) (hBw : B ≤ w.heap.size) :
    Calls Try.prog 26 #[.pointer (some ⟨b, 0, none⟩)] w fun e w' => e = .returned (.string (strOf xs)) ∧ Below B w w' := by
  have h' : Lib.IsBuilder 51 5 B b (Lib.byteCells (xs.map UInt8.ofNat)) w := by rw [bytes_Bs xs hx]; exact h
  refine (Builder_String_any B b (xs.map UInt8.ofNat) w h' hBw).mono ?_
  rintro e w' ⟨rfl, hb⟩
  refine ⟨?_, hb⟩
  have : (⟨(xs.map UInt8.ofNat).toArray⟩ : ByteArray) = strOf xs := ba_ext.1 (by rw [strOf_list])
  rw [this]
end Go.Proofs.Ythebnealkekdmaa
namespace Go.Proofs.Ythebnealkekdmaa
open Go.RowKit Go.WideShapes

theorem fresh_bld (w : World) : Bld w.heap.size w.heap.size [] (w.alloc (.cells #[.pointer none, .slice none 0 0] 51)) := Lib.fresh_isBuilder _ _ w
set_option maxRecDepth 8000 in
set_option maxHeartbeats 4000000 in
theorem After_any (s : ByteArray) (w : World) (hs : (s.size : Int) ≤ 10000) (t : ByteArray) (r : Bool) (hR : afterR s = (t, r)) :
    Calls Try.prog 12 #[.string s] w fun e w' => e = .returned (.tuple #[.string t, .bool r]) ∧ Below w.heap.size w w' := by
  have HR : Hid (afterR s = (t, r)) := hR
  have k0 : IntKind.i64.wrap ((s.size : Int) - 1) = (s.size : Int) - 1 := by rw [IntKind.wrap_i64]; omega
  clear hR
  go_enter Try.func12, Try.ntmps12
  go_wp2
  go_loop [4] (fun i => ∃ k : Nat, k ≤ s.size ∧ i = .int .i64 ((k : Int) - 1) ∧ Hid (∀ c ∈ (numsOf s).drop k, c = 255)) (fun i => (intOf i + 1).toNat)
  case atStart => exact ⟨s.size, Nat.le_refl _, rfl, fun c hc => by rw [List.drop_eq_nil_of_le (by rw [numsOf_len]; omega)] at hc; simp at hc⟩
  case round =>
    clear k0
    obtain ⟨k, hk, rfl, hall⟩ := hrel
    by_cases hk0 : k = 0
    · subst hk0
      go_wp2
      go_ret2
      rw [afterR_no hall.out] at HR
      have := HR.out
      simp only [Prod.mk.injEq] at this
      obtain ⟨rfl, rfl⟩ := this
      exact ⟨rfl, Below.refl _ _⟩
    · obtain ⟨j, rfl⟩ : ∃ j, k = j + 1 := ⟨k - 1, by omega⟩
      have e1 : (((j + 1 : Nat) : Int) - 1) = (j : Int) := by omega
      rw [e1]
      have k1 : IntKind.i64.wrap ((j : Int) - 1) = (j : Int) - 1 := by rw [IntKind.wrap_i64]; omega
      have hj : (j : Int) < (s.size : Int) := by omega
      have hj' : j < s.size := by omega
      obtain ⟨c, hc⟩ : ∃ c, (s[j]'hj').toNat = c := ⟨_, rfl⟩
      have HC : Hid ((numsOf s).getD j 0 = c) := (nums_at hj').trans hc
      have hc256 : c < 256 := by rw [← hc]; exact UInt8.toNat_lt _
      have hjs : (j : Int) ≤ (s.size : Int) := by omega
      clear e1 hk0
      by_cases h255 : c = 255
      · have g1 : ((c : Int) == 255) = true := by simp [h255]
        have HD : Hid (∀ c ∈ (numsOf s).drop j, c = 255) := by
          intro x hx
          rw [drop_cons' (d := 0) (by rw [numsOf_len]; exact hj'), List.mem_cons] at hx
          rcases hx with rfl | hx
          · rw [HC.out]; exact h255
          · exact hall.out x hx
        clear h255
        go_wp2
        go_round
        case rel => exact ⟨j, by omega, rfl, HD⟩
        case measure => simp [intOf]
      · have g1 : ((c : Int) == 255) = false := by simp; omega
        have HA : Hid (t = strOf ((numsOf s).take j ++ [c + 1]) ∧ r = true) := by
          have := HR.out
          rw [afterR_at hj' HC.out h255 hall.out] at this
          simp only [Prod.mk.injEq] at this
          exact ⟨this.1.symm, this.2.symm⟩
        have k3 : IntKind.u8.wrap ((c : Int) + 1) = ((c + 1 : Nat) : Int) := by rw [IntKind.wrap_u8']; omega
        have hex : (s.extract 0 j).size = j := by simp [ByteArray.size_extract]; omega
        have HX : Hid (numsOf (s.extract 0 j) = (numsOf s).take j ∧ (s.extract 0 j).size = j ∧ j < s.size ∧ c + 1 < 256) := ⟨by rw [numsOf_extract]; rfl, hex, hj', by omega⟩
        have HS : Hid (s.size ≤ 10000) := by show _ ≤ _; omega
        clear hex h255 hall
        go_wp2_with fail
        refine (writeString_any w.heap.size w.heap.size [] (s.extract 0 j) _ (fresh_bld w) (by have := HX.out; have := HS.out; simp; omega) (by simp)).mono ?_
        rintro e w1 ⟨rfl, hb1, hbel1⟩
        rw [List.nil_append, HX.out.1] at hb1
        have HB1 : Hid (Bld w.heap.size w.heap.size ((numsOf s).take j) w1) := hb1
        have HL1 : Hid (Below w.heap.size w w1) := (below_alloc w _).trans hbel1
        clear hb1 hbel1
        go_wp2_with fail
        refine (writeByte_any w.heap.size w.heap.size ((numsOf s).take j) (c + 1) _ HB1.out (by rw [List.length_take]; have := HS.out; have := HX.out; omega) HL1.out.size HX.out.2.2.2).mono ?_
        rintro e w2 ⟨rfl, hb2, hbel2⟩
        have HB2 : Hid (Bld w.heap.size w.heap.size ((numsOf s).take j ++ [c + 1]) w2) := hb2
        have HL2 : Hid (Below w.heap.size w w2) := HL1.out.trans hbel2
        clear hb2 hbel2
        go_wp2_with fail
        refine (string_any w.heap.size w.heap.size ((numsOf s).take j ++ [c + 1]) _ HB2.out (by intro x hx; rcases List.mem_append.1 hx with h | h; exact numsOf_lt s x (List.mem_of_mem_take h); simp at h; have := HX.out; omega) HL2.out.size).mono ?_
        rintro e w3 ⟨rfl, hbel3⟩
        have HL3 : Hid (Below w.heap.size w w3) := HL2.out.trans hbel3
        clear hbel3
        go_wp2
        go_ret2
        exact ⟨by rw [HA.out.1, HA.out.2]; rfl, HL3.out⟩
end Go.Proofs.Ythebnealkekdmaa
namespace Go.Proofs.Ythebnealkekdmaa.keyOrder
open Go.ChangeShapes Go.WideShapes Go.ChangeAt Go.RowKit
open Go.ChangeMaps (open_string shut_string)
set_option linter.unusedVariables false

theorem own : ownKnob Try.prog.godebug = none := by kernel_rfl
theorem laidOut : laidOutB Try.prog = true := by kernel_rfl

set_option maxRecDepth 8000 in
set_option maxHeartbeats 4000000 in
theorem walk_main (qa qb : Option Addr) (na nb ca cb : Nat) (a b : List PartV) (s : ByteArray) (w : World) (hna : na = a.length) (hnb : nb = b.length) (ha : PtsIn w qa a) (hb : PtsIn w qb b) (hla : (na : Int) ≤ 100) (hlb : (nb : Int) ≤ 100) (hs : (s.size : Int) ≤ 10000) :
    Calls Try.prog 5 #[.slice qa na ca, .slice qb nb cb, .string s] w fun e w' => e = .returned (.bool true) ∧ Below w.heap.size w w' := by
  have HA : Hid (PtsIn w qa a) := ha
  have HB : Hid (PtsIn w qb b) := hb
  have HN : Hid (na = a.length ∧ nb = b.length) := ⟨hna, hnb⟩
  have HS : Hid ((s.size : Int) ≤ 10000 ∧ (na : Int) ≤ 100 ∧ (nb : Int) ≤ 100) := ⟨hs, hla, hlb⟩
  obtain ⟨t, r, hR⟩ : ∃ t r, afterR s = (t, r) := ⟨_, _, rfl⟩
  have HR : Hid (afterR s = (t, r)) := hR
  obtain ⟨x, hx⟩ : ∃ x, decide (cmpPs a b < 0) = x := ⟨_, rfl⟩
  obtain ⟨y, hy⟩ : ∃ y, decide (cmpPs b a < 0) = y := ⟨_, rfl⟩
  have HX : Hid (decide (cmpPs a b < 0) = x) := hx
  have HY : Hid (decide (cmpPs b a < 0) = y) := hy
  clear hna hnb ha hb hR hx hy
  go_enter Try.func5, Try.ntmps5
  go_wp2_with fail
  refine (After_any s _ HS.out.1 t r HR.out).mono ?_
  rintro e w1 ⟨rfl, hb1⟩
  have HB1 : Hid (Below w.heap.size w w1) := hb1
  clear hb1
  go_wp2_with fail
  refine (rAfter_any s _ HS.out.1 t r HR.out).mono ?_
  rintro e w2 ⟨rfl, hb2⟩
  have HB2 : Hid (Below w.heap.size w w2) := below_bt HB1.out hb2
  clear hb2
  go_wp2_with fail
  refine (less_any qa qb na nb ca cb a b _ HN.out.1 HN.out.2 (HA.out.below HB2.out) (HB.out.below HB2.out) (by have := HS.out; omega) (by have := HS.out; omega) x HX.out).mono ?_
  rintro e w3 ⟨rfl, hb3⟩
  have HB3 : Hid (Below w.heap.size w w3) := below_bt HB2.out hb3
  clear hb3
  go_wp2_with fail
  refine (rLess_any qa qb na nb ca cb a b _ HN.out.1 HN.out.2 (HA.out.below HB3.out) (HB.out.below HB3.out) (by have := HS.out; omega) (by have := HS.out; omega) x HX.out).mono ?_
  rintro e w4 ⟨rfl, hb4⟩
  have HB4 : Hid (Below w.heap.size w w4) := below_bt HB3.out hb4
  clear hb4
  go_wp2_with fail
  refine (less_any qb qa nb na cb ca b a _ HN.out.2 HN.out.1 (HB.out.below HB4.out) (HA.out.below HB4.out) (by have := HS.out; omega) (by have := HS.out; omega) y HY.out).mono ?_
  rintro e w5 ⟨rfl, hb5⟩
  have HB5 : Hid (Below w.heap.size w w5) := below_bt HB4.out hb5
  clear hb5
  go_wp2_with fail
  refine (rLess_any qb qa nb na cb ca b a _ HN.out.2 HN.out.1 (HB.out.below HB5.out) (HA.out.below HB5.out) (by have := HS.out; omega) (by have := HS.out; omega) y HY.out).mono ?_
  rintro e w6 ⟨rfl, hb6⟩
  have HB6 : Hid (Below w.heap.size w w6) := below_bt HB5.out hb6
  clear hb6
  go_wp2
  go_ret
  exact ⟨rfl, HB6.out⟩
theorem walk (va vb : Value) (a b : List PartV) (s : ByteArray) (w : World) (ha : PtIn w va a) (hb : PtIn w vb b) :
    Calls Try.prog 5 #[va, vb, .string s] w fun e w' => e = .returned (.bool true) ∧ Below w.heap.size w w' := by
  obtain ⟨qa, ca, rfl, pa, _⟩ := ha.lies
  obtain ⟨qb, cb, rfl, pb, _⟩ := hb.lies
  by_cases h1 : 100 < a.length
  · have g1 : decide ((100 : Int) < (a.length : Int)) = true := decide_eq_true (by omega)
    clear h1 ha hb pa pb
    go_enter Try.func5, Try.ntmps5
    go_wp2
    go_ret
    exact ⟨rfl, Below.refl _ _⟩
  · have g1 : decide ((100 : Int) < (a.length : Int)) = false := decide_eq_false (by omega)
    by_cases h2 : 100 < b.length
    · have g2 : decide ((100 : Int) < (b.length : Int)) = true := decide_eq_true (by omega)
      clear h1 h2 ha hb pa pb
      go_enter Try.func5, Try.ntmps5
      go_wp2
      go_ret
      exact ⟨rfl, Below.refl _ _⟩
    · have g2 : decide ((100 : Int) < (b.length : Int)) = false := decide_eq_false (by omega)
      by_cases h3 : 10000 < s.size
      · have g3 : decide ((10000 : Int) < (s.size : Int)) = true := decide_eq_true (by omega)
        clear h1 h2 h3 ha hb pa pb
        go_enter Try.func5, Try.ntmps5
        go_wp2
        go_ret
        exact ⟨rfl, Below.refl _ _⟩
      · exact walk_main qa qb _ _ ca cb a b s w rfl rfl pa pb (by omega) (by omega) (by omega)

/-! ### THE ROW's STEP -/
set_option maxRecDepth 100000 in
theorem lifted (os : Os) (started : os.Started) (H : Type) (enc : TypeId × Value → H) :
    ReturnsInHanded {} Try.checked os 5 .any (Rows.keyOrderSpec.pre6 enc Try.prog Try.f5 Rows.keyOrderRow.domain false) (Rows.keyOrderSpec.post enc Try.prog Try.f5 false true false false) := by
  refine returnsInHanded_of_change (C := Try.checked) own started (by kernel_rfl) Try.func5
    (ChangeSpec.witness6 (enc := enc) (C := Try.checked) false ⟨#[], #[.slice none 0 0, .slice none 0 0, .string ByteArray.empty], []⟩ 8 (by kernel_rfl) (by kernel_rfl) (by kernel_rfl) (by kernel_rfl)) ?_
  intro W base args ds gs before hval0 hW hcnd _
  have hval : ∀ (j : Nat) t v, Try.f5.params[j]? = some t → args[j]? = some v → Value.okWide Try.prog W .any base t v := hval0
  have hW' := hW
  obtain ⟨p, q, hA0, hV, rfl, hfz, hnd⟩ := hW
  have hA : DataW.TrodAll enc Try.prog W 0 (fun _ => true) true Try.f5.params.toList args.toList ds p := hA0
  rw [Try.params5] at hA hval
  obtain ⟨v0, vs0, d0, ds0, p0, q0, hargs, rfl, rfl, h0, r0⟩ := trodAll_cons hA
  obtain ⟨v1, vs1, d1, ds1, p1, q1, rfl, rfl, rfl, h1, r1⟩ := trodAll_cons r0
  obtain ⟨v2, vs2, d2, ds2, p2, q2, rfl, rfl, rfl, h2, r2⟩ := trodAll_cons r1
  obtain ⟨rfl, rfl, rfl⟩ := trodAll_nil r2
  obtain rfl : args = #[v0, v1, v2] := by cases args; simp_all
  obtain ⟨rfl, rfl⟩ := trodVars_none hV
  have k0 := h0
  have lt0 : ∀ x ∈ p0, x.block < W.heap.size := by obtain ⟨m, hm⟩ := k0; exact DataW.trod_lt m _ _ _ hm
  have k1 := h1
  have lt1 : ∀ x ∈ p1, x.block < W.heap.size := by obtain ⟨m, hm⟩ := k1; exact DataW.trod_lt m _ _ _ hm
  obtain ⟨qa0, la0, ca0, rfl⟩ := okWide_slice Try.underlying28 (hval 0 28 v0 rfl rfl)
  obtain ⟨qa1, la1, ca1, rfl⟩ := okWide_slice Try.underlying28 (hval 1 28 v1 rfl rfl)
  obtain ⟨fu0, hf0⟩ := h0
  obtain ⟨fu1, hf1⟩ := h1
  obtain ⟨l0, w0⟩ := open_parts Try.underlying28 Try.underlying26 (by kernel_rfl) rfl rfl rfl (by kernel_rfl) (by kernel_rfl) (by kernel_rfl) Try.underlying5 Try.underlying2 Try.underlying9 hf0
  obtain ⟨l1, w1⟩ := open_parts Try.underlying28 Try.underlying26 (by kernel_rfl) rfl rfl rfl (by kernel_rfl) (by kernel_rfl) (by kernel_rfl) Try.underlying5 Try.underlying2 Try.underlying9 hf1
  obtain ⟨a2, rfl, rfl, rfl, w2⟩ := open_string Try.underlying9 (hval 2 9 v2 rfl rfl) h2
  clear hA0 hval0
  refine (walk (.slice qa0 la0 ca0) (.slice qa1 la1 ca1) l0 l1 a2 W w0 w1).mono fun e W' ⟨he, bel⟩ => ?_
  subst he
  exact ⟨_, rfl, _, _, _, [], _, [], hW', trodAll_mk1 (shut_bool Try.underlying4 _), (trodAll_cons_mk (Below.trod laidOut (by kernel_rfl) (of_decide_eq_true (by kernel_rfl)) k0 bel lt0) (trodAll_cons_mk (Below.trod laidOut (by kernel_rfl) (of_decide_eq_true (by kernel_rfl)) k1 bel lt1) (trodAll_cons_mk (shut_string Try.underlying9 w2) trodAll_mk0))), rfl, bel.frame _, fun h => by cases h⟩

theorem over : Rows.keyOrderRow.holds Try.pinned (OpenSpec.ofChange Rows.keyOrderSpec) :=
  OpenClaim.holds_of_wide 5 Try.f5 rfl rfl rfl rfl rfl rfl rfl ⟨rfl, rfl, rfl, rfl, rfl⟩ rfl rfl rfl rfl rfl (by kernel_rfl) Try.func5 (by kernel_rfl)
    (of_decide_eq_true (by kernel_rfl)) (by unfold Func.isWrapper; first | (rw [if_pos (by decide +kernel)]; kernel_rfl) | (rw [if_neg (by decide +kernel)]; exact ⟨rfl, rfl⟩))
    (fun os started H enc _ => lifted os started H enc)

theorem proved : Rows.KeyOrderSaid := over
end Go.Proofs.Ythebnealkekdmaa.keyOrder
namespace Go.Proofs.Ythebnealkekdmaa
theorem keyOrder_holds : Rows.KeyOrderSaid := keyOrder.proved
#print axioms keyOrder_holds
end Go.Proofs.Ythebnealkekdmaa
