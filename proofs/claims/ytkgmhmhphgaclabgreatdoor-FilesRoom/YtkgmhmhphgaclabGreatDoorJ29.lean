/-
  Files sorted by name (slices.SortFunc).
-/
import Derived.Test.YtkgmhmhphgaclabGreatDoorJ28
import Derived.Laws.Concat
import Derived.Shelf.SlGeneric
import Derived.Ground.SlgcProg
import Derived.Ground.SlsfProg
import Derived.Shelf.SlicesG.Cmp
import Derived.Shelf.SlSortCmp.WholeK
import Derived.Shelf.SlSortCmp.NoneTotal
import Derived.Test.YtkgmhmhphgaclabGreatDoorProg
import Derived.Lib.Bytealg
import Derived.Lib.Strings
import Derived.Lib.Walk
import Derived.Test.YtkgmhmhphgaclabGreatDoorJ06
namespace Go.Proofs.YtkgmhmhphgaclabGreatDoor
open Go.RowKit Go.WideShapes Rm

/-- What is wrong with the change at a place. -/
def oneC (old : List FileV) (l : List CV) (k : Nat) : Int :=
  if isNameN (l.getD k zeroCV).key = false then 5
  else if namedC (l.take k) (l.getD k zeroCV).key = true then 8
  else if (l.getD k zeroCV).gone = true ∧ findI old (l.getD k zeroCV).key < 0 then 6 else 0
/-- What is wrong with the changes from a place on. -/
def fromC (old : List FileV) (l : List CV) : Nat → Nat → Int
  | 0, _ => 0
  | m + 1, k => if oneC old l k ≠ 0 then oneC old l k else fromC old l m (k + 1)
def chgE (old : List FileV) (l : List CV) : Int := if 64 < l.length then 4 else fromC old l l.length 0
theorem fromC_err {old : List FileV} {l : List CV} {m k : Nat} {E e : Int} (h : fromC old l (m + 1) k = E) (h1 : oneC old l k = e) (h2 : e ≠ 0) : E = e := by
  rw [← h, fromC, h1, if_pos h2]
theorem fromC_go {old : List FileV} {l : List CV} {m k : Nat} {E : Int} (h : fromC old l (m + 1) k = E) (h1 : oneC old l k = 0) : fromC old l m (k + 1) = E := by
  rw [← h, fromC, h1]
  simp
structure ChkP (w : World) (E : Int) (e : Ending) (w' : World) : Prop where
  ex : ∃ ev, e = .returned ev ∧ ErrV ev E ∧ Below w.heap.size w w'
theorem below_drC {w w' : World} (h : Below w.drew.heap.size w.drew w') : Below w.heap.size w w' := ((Below.refl _ _).drew).trans h
theorem named_take {w : World} {q : Option Addr} {n c : Nat} {l : List CV} (hq : CsIn w q l) (hn0 : n = l.length) (hn1 : n ≤ 64) (k : Nat) (hk : k ≤ n) (name : ByteArray) (r : Bool) (hr : namedC (l.take k) name = r) : Calls Tryz.prog 78 #[.slice q k c, .string name] w fun e w' => e = .returned (.bool r) ∧ Below w.heap.size w w' :=
  named_any4 q k c (l.take k) name w (hq.take k) (by rw [List.length_take]; omega) (by omega) r hr
set_option maxRecDepth 8000 in
set_option maxHeartbeats 4000000 in
theorem checkChanges_any (fv : Value) (old : List FileV) (q : Option Addr) (n c : Nat) (l : List CV) (w : World) (hf : FIn w fv old) (hq : CsIn w q l) (hn0 : n = l.length) (hnc : n ≤ c) (hnb : (n : Int) ≤ 9223372036854775807) (hs : ∀ x ∈ l, (x.key.size : Int) ≤ 9223372036854775807) (E : Int) (hE : chgE old l = E) :
    Calls Tryz.prog 46 #[fv, .slice q n c] w fun e w' => ChkP w E e w' := by
  obtain ⟨fq, fm, rfl, _⟩ := hf.lies
  have HF : Hid (FIn w (.slice fq old.length fm) old) := hf
  obtain ⟨ol, hol⟩ : ∃ m, old.length = m := ⟨_, rfl⟩
  rw [hol] at HF ⊢
  have HQ : Hid (CsIn w q l ∧ n = l.length) := ⟨hq, hn0⟩
  have HKS : Hid (∀ k, k < l.length → ((l.getD k zeroCV).key.size : Int) ≤ 9223372036854775807) := by
    intro k hk
    refine hs _ ?_
    rw [List.getD_eq_getElem?_getD, List.getElem?_eq_getElem hk]
    exact List.getElem_mem _
  clear hf hs hol
  by_cases hbig : 64 < n
  · have HE : Hid (E = 4) := by show E = 4; rw [← hE]; unfold chgE; rw [if_pos (by omega)]
    have hbI : (64 : Int) < (n : Int) := by omega
    clear hE hq hn0 hbig
    go_enter Tryz.func46, Tryz.ntmps46
    go_wp2
    go_ret
    exact ⟨⟨_, rfl, by rw [HE.out]; exact .inr ⟨by decide, Faults.one _ _⟩, Below.refl _ _⟩⟩
  · have HE0 : Hid (fromC old l n 0 = E) := by show _ = E; rw [← hE]; unfold chgE; rw [if_neg (by omega), hn0]
    have hbI : (n : Int) ≤ 64 := by omega
    have HN64 : Hid (n ≤ 64 ∧ n ≤ c) := ⟨by omega, hnc⟩
    have hncI : (n : Int) ≤ (c : Int) := by omega
    clear hE hq hn0 hbig hnb
    go_enter Tryz.func46, Tryz.ntmps46
    go_wp2
    go_loopw [15] (fun i wr => ∃ k : Nat, k ≤ n ∧ i = .int .i64 (k : Int) ∧ fromC old l (n - k) k = E ∧ Below w.heap.size w wr) (fun i _ => n - (intOf i).toNat)
    case atStart => exact ⟨0, by omega, rfl, HE0.out, Below.refl _ _⟩
    case round =>
      obtain ⟨k, hk, rfl, he, hb⟩ := hrel
      clear HE0
      have HB : Hid (Below w.heap.size w wr) := hb
      by_cases hkn : k < n
      · have hkI : (k : Int) < (n : Int) := by omega
        have k0 : (0 : Int) ≤ (k : Int) := by omega
        have HKN : Hid (k < n) := hkn
        have hkl : k < l.length := by have := HQ.out.2; omega
        have hen := HQ.out.1.below hb
        obtain ⟨fb, fo, rfl⟩ := hen.addr (by omega)
        obtain ⟨z0, z1, z2⟩ := hen.at hkl
        have hsz := HKS.out k hkl
        have HFE : Hid (fromC old l (n - (k + 1) + 1) k = E) := by
          show _ = E
          rw [show n - (k + 1) + 1 = n - k by omega]
          exact he
        have HO : Hid (oneC old l k = if isNameN (l.getD k zeroCV).key = false then 5 else if namedC (l.take k) (l.getD k zeroCV).key = true then 8 else if (l.getD k zeroCV).gone = true ∧ findI old (l.getD k zeroCV).key < 0 then 6 else 0) := rfl
        obtain ⟨⟨ck, cv, cg⟩, hc⟩ : ∃ f, l.getD k zeroCV = f := ⟨_, rfl⟩
        rw [hc] at z0 z1 z2 hsz HO
        simp only at z0 z1 z2 hsz HO
        have hA := below_alloc wr (.cells #[.string ck, .string cv, .bool cg] 52)
        have HA : Hid (Below w.heap.size w (wr.alloc (.cells #[.string ck, .string cv, .bool cg] 52))) := below_bt hb hA
        obtain ⟨r1, hr1⟩ : ∃ r, isNameN ck = r := ⟨_, rfl⟩
        have hin := isName_r ck r1 hr1 (wr.alloc (.cells #[.string ck, .string cv, .bool cg] 52)) hsz
        rw [hr1] at HO
        clear he hb hen hkn hk hkl hc hA
        go_wp2_with fail
        refine hin.mono ?_
        rintro e w1 ⟨rfl, rfl⟩
        clear hin
        cases r1 with
        | false =>
          have HE : Hid (E = 5) := fromC_err HFE.out (HO.out.trans (if_pos rfl)) (by decide)
          go_wp2
          go_ret
          exact ⟨⟨_, rfl, by rw [HE.out]; exact .inr ⟨by decide, Faults.one _ _⟩, HA.out⟩⟩
        | true =>
          have hck : ck.size ≤ 32 := by
            have h := hr1
            unfold isNameN at h
            rw [Bool.and_eq_true] at h
            exact (of_decide_eq_true h.1).2
          obtain ⟨r2, hr2⟩ : ∃ r, namedC (l.take k) ck = r := ⟨_, rfl⟩
          rw [if_neg (by simp), hr2] at HO
          obtain ⟨wA, hwA⟩ : ∃ wA, wr.alloc (.cells #[.string ck, .string cv, .bool cg] 52) = wA := ⟨_, rfl⟩
          have HBK : Hid (wA.heap[wr.heap.size]? = some (.cells #[.string ck, .string cv, .bool cg] 52 (0, 0))) := by show _ = _; rw [← hwA]; exact heap_alloc_new _ _
          rw [hwA] at HA ⊢
          have HNM : Hid (∀ w', Below wA.heap.size wA w' → Calls Tryz.prog 78 #[.slice (some ⟨fb, fo, none⟩) k c, .string ck] w' fun e w'' => e = .returned (.bool r2) ∧ Below w'.heap.size w' w'') := fun w' hb' => named_take (HQ.out.1.below (below_bt HA.out hb')) HQ.out.2 HN64.out.1 k (Nat.le_of_lt HKN.out) ck r2 hr2
          have HFD : Hid (∀ w', Below wA.heap.size wA w' → Calls Tryz.prog 71 #[.slice fq ol fm, .string ck] w' fun e w'' => e = .returned (.int .i64 (findI old ck)) ∧ Below w'.heap.size w' w'') := fun w' hb' => find_any4 _ old ck w' (HF.out.below (below_bt HA.out hb'))
          have hcat : ∀ w' (t : ByteArray), t.size ≤ 100 → (Op.stringOp .add ck t).run Tryz.prog w' = .ok (.string (ck ++ t)) w' := fun w' t ht => run_string_add_sum w' _ _ (by omega)
          obtain ⟨x0, x1, x2⟩ := three_cells HBK.out
          have hkc : (k : Int) ≤ (c : Int) := by omega
          clear hr1 hr2 hwA z0 z1 z2
          go_upto_region 8 with fail
          go_region_with (go_at_call 78; refine (HNM.out _ (by first | exact (Below.refl _ _).drew | exact Below.refl _ _)).mono ?_; rintro e w6 ⟨rfl, hb6⟩)
          all_goals
            have HB6 : Hid (Below wA.heap.size wA w6) := below_drC hb6
            have HW6 : Hid (Below w.heap.size w w6) := below_bt HA.out HB6.out
            obtain ⟨y0, y1, y2⟩ := three_cells ((HB6.out.block _ (lt_heap HBK.out)).trans HBK.out)
            have HFD6 := HFD.out w6 HB6.out
            clear hb6 HNM HFD x0 x1 x2
            cases r2 with
            | true =>
              have HE : Hid (E = 8) := fromC_err HFE.out (HO.out.trans (if_pos rfl)) (by decide)
              clear HFD6
              go_wp2
              go_ret
              exact ⟨⟨_, rfl, by rw [HE.out]; exact .inr ⟨by decide, Faults.one _ _⟩, HW6.out⟩⟩
            | false =>
              cases cg with
              | false =>
                have HG : Hid (fromC old l (n - (k + 1)) (k + 1) = E) := fromC_go HFE.out (HO.out.trans ((if_neg (by simp)).trans (if_neg (by simp))))
                clear HFD6 hcat
                go_wp2
                go_roundw
                case rel => exact ⟨k + 1, HKN.out, by go_num, HG.out, HW6.out⟩
                case measure => have := HKN.out; simp [intOf]; omega
              | true =>
                obtain ⟨fi, hfi⟩ : ∃ i, findI old ck = i := ⟨_, rfl⟩
                rw [hfi] at HFD6 HO
                clear hfi hcat
                by_cases hf0 : fi < 0
                · have HE : Hid (E = 6) := fromC_err HFE.out (HO.out.trans ((if_neg (by simp)).trans (if_pos ⟨rfl, hf0⟩))) (by decide)
                  go_wp2_with fail
                  refine HFD6.mono ?_
                  rintro e w7 ⟨rfl, hb7⟩
                  have HW7 : Hid (Below w.heap.size w w7) := below_bt HW6.out hb7
                  have v0 := cellB y0 hb7
                  clear hb7 HFD6
                  go_wp2
                  go_ret
                  exact ⟨⟨_, rfl, by rw [HE.out]; exact .inr ⟨by decide, Faults.one _ _⟩, HW7.out⟩⟩
                · have HG : Hid (fromC old l (n - (k + 1)) (k + 1) = E) := fromC_go HFE.out (HO.out.trans ((if_neg (by simp)).trans (if_neg (fun h => hf0 h.2))))
                  have hf0' : decide (fi < 0) = false := decide_eq_false hf0
                  clear hf0
                  go_wp2_with fail
                  refine HFD6.mono ?_
                  rintro e w7 ⟨rfl, hb7⟩
                  have HW7 : Hid (Below w.heap.size w w7) := below_bt HW6.out hb7
                  clear hb7 HFD6
                  go_wp2
                  go_roundw
                  case rel => exact ⟨k + 1, HKN.out, by go_num, HG.out, HW7.out⟩
                  case measure => have := HKN.out; simp [intOf]; omega
      · have hkI : (n : Int) ≤ (k : Int) := by omega
        have HE : Hid (E = 0) := by
          show E = 0
          rw [← he, show n - k = 0 by omega]
          rfl
        clear hkn hk he hb
        go_wp2
        go_ret
        exact ⟨⟨_, rfl, by rw [HE.out]; exact .inl ⟨rfl, rfl⟩, HB.out⟩⟩
end Go.Proofs.YtkgmhmhphgaclabGreatDoor
namespace Go.Proofs.YtkgmhmhphgaclabGreatDoor
open Go.Shelf
def laysSortF_ren : Go.Shelf.Ren := ⟨fun | 6 => 80 | 15 => 110 | 14 => 109 | 28 => 130 | 29 => 131 | 20 => 122 | 21 => 123 | 22 => 124 | 23 => 125 | 24 => 126 | 25 => 127 | 26 => 128 | 27 => 129 | 46 => 139 | 47 => 140 | 48 => 141 | 49 => 142 | 50 => 143 | 57 => 150 | n => n, fun | 22 => 41 | 24 => 50 | 25 => 144 | 3 => 3 | 39 => 187 | 0 => 0 | 53 => 209 | 55 => 145 | 4 => 4 | 46 => 202 | 45 => 201 | 50 => 206 | 5 => 5 | 9 => 9 | 66 => 216 | 70 => 220 | 76 => 227 | 77 => 228 | n => n, fun | n => n⟩
theorem laysSortF : Go.Proofs.SlLaysF0.n6 Tryz.prog laysSortF_ren := {
  mixed := by kernel_rfl
  f6 := ⟨Tryz.f80.name, by decide, Tryz.func80.trans (congrArg some (by kernel_rfl))⟩
  f14 := ⟨Tryz.f109.name, by decide, Tryz.func109.trans (congrArg some (by kernel_rfl))⟩
  f15 := Tryz.func110.trans (congrArg some (by kernel_rfl))
  f20 := ⟨Tryz.f122.name, by decide, Tryz.func122.trans (congrArg some (by kernel_rfl))⟩
  f21 := ⟨Tryz.f123.name, by decide, Tryz.func123.trans (congrArg some (by kernel_rfl))⟩
  f22 := ⟨Tryz.f124.name, by decide, Tryz.func124.trans (congrArg some (by kernel_rfl))⟩
  f23 := ⟨Tryz.f125.name, by decide, Tryz.func125.trans (congrArg some (by kernel_rfl))⟩
  f24 := ⟨Tryz.f126.name, by decide, Tryz.func126.trans (congrArg some (by kernel_rfl))⟩
  f25 := ⟨Tryz.f127.name, by decide, Tryz.func127.trans (congrArg some (by kernel_rfl))⟩
  f26 := ⟨Tryz.f128.name, by decide, Tryz.func128.trans (congrArg some (by kernel_rfl))⟩
  f27 := ⟨Tryz.f129.name, by decide, Tryz.func129.trans (congrArg some (by kernel_rfl))⟩
  f28 := Tryz.func130.trans (congrArg some (by kernel_rfl))
  f29 := Tryz.func131.trans (congrArg some (by kernel_rfl))
  f46 := ⟨Tryz.f139.name, by decide, Tryz.func139.trans (congrArg some (by kernel_rfl))⟩
  f47 := Tryz.func140.trans (congrArg some (by kernel_rfl))
  f48 := Tryz.func141.trans (congrArg some (by kernel_rfl))
  f49 := ⟨Tryz.f142.name, by decide, Tryz.func142.trans (congrArg some (by kernel_rfl))⟩
  f50 := ⟨Tryz.f143.name, by decide, Tryz.func143.trans (congrArg some (by kernel_rfl))⟩
  f57 := ⟨Tryz.f150.name, by decide, Tryz.func150.trans (congrArg some (by kernel_rfl))⟩
  t0 := Tryz.underlying0
  a0 := Tryz.isAgg0
  z0 := Tryz.sizeOf0
  v0 := Tryz.zeroValue0
  t3 := Tryz.underlying3
  a3 := Tryz.isAgg3
  z3 := Tryz.sizeOf3
  v3 := Tryz.zeroValue3
  t4 := Tryz.underlying4
  a4 := Tryz.isAgg4
  z4 := Tryz.sizeOf4
  v4 := Tryz.zeroValue4
  t5 := Tryz.underlying5
  a5 := Tryz.isAgg5
  z5 := Tryz.sizeOf5
  v5 := Tryz.zeroValue5
  t9 := Tryz.underlying9
  a9 := Tryz.isAgg9
  z9 := Tryz.sizeOf9
  v9 := Tryz.zeroValue9
  t22 := Tryz.underlying41
  a22 := Tryz.isAgg41
  z22 := Tryz.sizeOf41
  v22 := Tryz.zeroValue41
  t25 := Tryz.underlying144
  a25 := Tryz.isAgg144
  z25 := Tryz.sizeOf144
  v25 := Tryz.zeroValue144
  t39 := Tryz.underlying187
  a39 := Tryz.isAgg187
  z39 := Tryz.sizeOf187
  v39 := Tryz.zeroValue187
  t45 := Tryz.underlying201
  a45 := Tryz.isAgg201
  z45 := Tryz.sizeOf201
  v45 := Tryz.zeroValue201
  t46 := Tryz.underlying202
  a46 := Tryz.isAgg202
  z46 := Tryz.sizeOf202
  v46 := Tryz.zeroValue202
  t50 := Tryz.underlying206
  a50 := Tryz.isAgg206
  z50 := Tryz.sizeOf206
  v50 := Tryz.zeroValue206
  t53 := Tryz.underlying209
  a53 := Tryz.isAgg209
  z53 := Tryz.sizeOf209
  v53 := Tryz.zeroValue209
  t55 := Tryz.underlying145
  a55 := Tryz.isAgg145
  z55 := Tryz.sizeOf145
  v55 := Tryz.zeroValue145
  t66 := Tryz.underlying216
  a66 := Tryz.isAgg216
  z66 := Tryz.sizeOf216
  v66 := Tryz.zeroValue216
  t70 := Tryz.underlying220
  a70 := Tryz.isAgg220
  z70 := Tryz.sizeOf220
  v70 := Tryz.zeroValue220
  t76 := Tryz.underlying227
  a76 := Tryz.isAgg227
  z76 := Tryz.sizeOf227
  v76 := Tryz.zeroValue227
  t77 := Tryz.underlying228
  a77 := Tryz.isAgg228
  z77 := Tryz.sizeOf228
  v77 := Tryz.zeroValue228 }
end Go.Proofs.YtkgmhmhphgaclabGreatDoor
namespace Go.Proofs.YtkgmhmhphgaclabGreatDoor
open Go.RowKit Go.WideShapes Rm

def cmpS (a b : ByteArray) : Int := Lib.compareBytes a.data.toList b.data.toList
theorem bytesLess_cmp : ∀ (a b : List UInt8), Op.bytesLess a b = decide (Lib.compareBytes a b < 0)
  | [], [] => by simp [Op.bytesLess, Lib.compareBytes]
  | [], _ :: _ => by simp [Op.bytesLess, Lib.compareBytes]
  | _ :: _, [] => by simp [Op.bytesLess, Lib.compareBytes]
  | x :: a, y :: b => by
    unfold Lib.compareBytes Op.bytesLess
    by_cases h1 : x < y
    · simp [h1]
    · by_cases h2 : y < x
      · have : ¬ x = y := by intro e; subst e; exact UInt8.lt_irrefl x h2
        simp [h1, h2, this]
      · have : x = y := UInt8.le_antisymm (UInt8.not_lt.1 h2) (UInt8.not_lt.1 h1)
        subst this
        rw [bytesLess_cmp a b]
        simp [UInt8.lt_irrefl x]
theorem bl_irrefl : ∀ (a : List UInt8), Op.bytesLess a a = false
  | [] => rfl
  | x :: a => by
    unfold Op.bytesLess
    simp [UInt8.lt_irrefl x, bl_irrefl a]
theorem bl_trans : ∀ (a b c : List UInt8), Op.bytesLess a b = true → Op.bytesLess b c = true → Op.bytesLess a c = true
  | [], b, [], _, h2 => by cases b <;> simp [Op.bytesLess] at h2
  | [], _, _ :: _, _, _ => rfl
  | _ :: _, [], _, h1, _ => by simp [Op.bytesLess] at h1
  | _ :: _, _ :: _, [], _, h2 => by simp [Op.bytesLess] at h2
  | x :: a, y :: b, z :: c, h1, h2 => by
    unfold Op.bytesLess at h1 h2 ⊢
    simp only [Bool.or_eq_true, Bool.and_eq_true, decide_eq_true_eq, beq_iff_eq] at h1 h2 ⊢
    rcases h1 with h1 | ⟨h1, h1'⟩
    · rcases h2 with h2 | ⟨h2, _⟩
      · exact .inl (UInt8.lt_trans h1 h2)
      · subst h2; exact .inl h1
    · subst h1
      rcases h2 with h2 | ⟨h2, h2'⟩
      · exact .inl h2
      · exact .inr ⟨h2, bl_trans a b c h1' h2'⟩
theorem bl_tri : ∀ (a b : List UInt8), Op.bytesLess a b = false → Op.bytesLess b a = false → a = b
  | [], [], _, _ => rfl
  | [], _ :: _, h1, _ => by simp [Op.bytesLess] at h1
  | _ :: _, [], _, h2 => by simp [Op.bytesLess] at h2
  | x :: a, y :: b, h1, h2 => by
    unfold Op.bytesLess at h1 h2
    simp only [Bool.or_eq_false_iff, Bool.and_eq_false_iff, decide_eq_false_iff_not, beq_eq_false_iff_ne, ne_eq] at h1 h2
    have hxy : x = y := UInt8.le_antisymm (UInt8.not_lt.1 h2.1) (UInt8.not_lt.1 h1.1)
    subst hxy
    rw [bl_tri a b (by simpa using h1.2) (by simpa using h2.2)]

theorem lt_cmpS (a b : ByteArray) : decide (cmpS a b < 0) = Op.bytesLess a.toList b.toList := by
  rw [ByteArray.toList_eq, ByteArray.toList_eq, bytesLess_cmp]
  rfl
set_option maxHeartbeats 1000000 in
set_option maxRecDepth 100000 in
theorem bytealg_any (a b : ByteArray) (w : World) :
    Calls Tryz.prog 111 #[.string a, .string b] w fun e w' => e = .returned (.int .i64 (cmpS a b)) ∧ w' = w := by
  go_enter Tryz.func111, Tryz.ntmps111
  go_wp2
  rw [run_callFunc_extern Tryz.func132 (by kernel_rfl) (by kernel_rfl) (by kernel_rfl) (e := Extern.BytealgCompare.compare) (by kernel_rfl), Lib.run_compareString]
  simp only [Result.andThen]
  rw [Oper.upon_value]
  go_wp2
  go_ret
  exact ⟨rfl, rfl⟩
theorem cmpStr_any (a b : ByteArray) (w : World) :
    Calls Tryz.prog 82 #[.string a, .string b] w fun e w' => e = .returned (.int .i64 (cmpS a b)) ∧ w' = w := by
  go_enter Tryz.func82, Tryz.ntmps82
  go_wp2_with (go_at_call 111; refine (bytealg_any _ _ _).mono ?_; rintro e w' ⟨rfl, rfl⟩)
  go_ret
  exact ⟨rfl, rfl⟩
end Go.Proofs.YtkgmhmhphgaclabGreatDoor
namespace Go.Proofs.YtkgmhmhphgaclabGreatDoor
open Go.RowKit Go.WideShapes Go.Shelf Go.Lib Go.Sort Rm

/-- A file with its slice of pieces, told by its parts. -/
structure FS where
  file : FileV
  q : Option Addr
  n : Nat
  c : Nat
instance : Inhabited FS := ⟨⟨zeroF, none, 0, 0⟩⟩
def FS.fp (x : FS) : FileV × Value := (x.file, .slice x.q x.n x.c)
def encF (x : FS) : List Value := [.string x.file.name, .int .i64 x.file.size, .slice x.q x.n x.c]
def cellsS (l : List FS) : List Value := cellsF (l.map FS.fp)
theorem cellsS_len (l : List FS) : (cellsS l).length = l.length * 3 := by unfold cellsS; rw [cellsF_len, List.length_map]
theorem fs_of {w : World} {base : Nat} : ∀ {ls : FPs}, (∀ x ∈ ls, POwn w base x.2 x.1.pcs) → ∃ l : List FS, l.map FS.fp = ls
  | [], _ => ⟨[], rfl⟩
  | x :: ls, h => by
    obtain ⟨l, hl⟩ := fs_of (ls := ls) (fun y hy => h y (by simp [hy]))
    obtain ⟨q, m, e, _⟩ := (h x (by simp)).form
    refine ⟨⟨x.1, q, x.1.pcs.length, m⟩ :: l, ?_⟩
    rw [List.map_cons, hl]
    congr 1
    unfold FS.fp
    rw [← e]
theorem flat_atF (l : List FS) (t : Nat) (h : t < l.length * 3) : (cellsS l)[t]? = some (flatK encF 3 l.toArray)[t]! := by
  rw [get_flatK _ _ _ _ (by simpa using h)]
  have hd : t / 3 < l.length := by omega
  have hm : (l.map FS.fp)[t / 3]? = some (l[t / 3]).fp := by rw [List.getElem?_map, List.getElem?_eq_getElem hd]; rfl
  obtain ⟨h0, h1, h2⟩ := cellsF_at (l.map FS.fp) (t / 3) _ hm
  have e : l.toArray[t / 3]! = l[t / 3] := by
    rw [getElem!_pos l.toArray (t / 3) (by simpa using hd)]
    simp
  rw [e]
  have hc : t % 3 = 0 ∨ t % 3 = 1 ∨ t % 3 = 2 := by omega
  unfold cellsS
  rcases hc with hm | hm | hm
  · rw [hm]
    rw [show t / 3 * 3 = t from by omega] at h0
    rw [h0]; rfl
  · rw [hm]
    rw [show t / 3 * 3 + 1 = t from by omega] at h1
    rw [h1]; rfl
  · rw [hm]
    rw [show t / 3 * 3 + 2 = t from by omega] at h2
    rw [h2]; rfl
theorem holds_ownF {w : World} {g : Nat} {cur : Array Value} {e : TypeId} {l : List FS} (hb : w.heap[g]? = some (.cells cur e (0, 0))) (ht : cur.toList.take (l.length * 3) = cellsS l) : HoldsK encF 3 w g 0 l.toArray := by
  intro j hj
  have hj' : j < l.length * 3 := by simpa using hj
  refine ⟨?_, frozen_of_row _ _ _ _ _ hb⟩
  have h1 := flat_atF l j hj'
  rw [← ht, List.getElem?_take_of_lt hj'] at h1
  rw [Nat.zero_add, cell_of_row w g j _ _ _ hb, ← Array.getElem?_toList, h1]
  rfl
theorem heap_riseF {w : World} {g n : Nat} {os : Array Obj} {cur : Array Value} {e : TypeId} {fr : Nat × Nat} (d : Array FS) (hb : w.heap[g]? = some (.cells cur e fr)) :
    (sortWorldK encF 3 w g 0 n d os).heap[g]? = some (.cells (putCells id 0 (flatK encF 3 d) cur) e fr) := by
  have hg : g < w.heap.size := (Array.getElem?_eq_some_iff.1 hb).1
  unfold sortWorldK putRowK
  rw [heap_grow_old _ _ (by simpa using hg)]
  simp [putRow, mapBlock, Sort.ahead, Array.getElem?_modify, hb, onCells]
theorem grown_riseF {w : World} {g n : Nat} {os : Array Obj} (d : Array FS) : w.grownBy (sortWorldK encF 3 w g 0 n d os) (some g) := by
  refine ⟨rfl, rfl, rfl, by unfold sortWorldK putRowK; simp, fun k hk hne => ?_⟩
  unfold sortWorldK putRowK
  rw [heap_grow_old _ _ (by simpa using hk)]
  have : g ≠ k := fun e => hne (by rw [e])
  simp [putRow, mapBlock, Sort.ahead, Array.getElem?_modify, this]
theorem own_riseF {w : World} {base g cap n : Nat} {os : Array Obj} {cur : Array Value} {l : List FS} {d : Array FS} (hl : d.size = l.length) (hbase : base ≤ g) (hb : w.heap[g]? = some (.cells cur 50 (0, 0)))
    (h1 : l.length ≤ cap) (h2 : cap ≤ maxLen) (h3 : cur.size = cap * 3) : (sortWorldK encF 3 w g 0 n d os).ownsRow base 50 3 (.slice (some ⟨g, 0, none⟩) l.length cap) d.toList.length (cellsS d.toList) := by
  refine ⟨by rw [cellsS_len], .inr ⟨g, cap, _, by simp [hl], hbase, heap_riseF d hb, by simpa [hl] using h1, h2, by simp [putCells, h3], ?_⟩⟩
  apply List.ext_getElem?
  intro j
  have hdl : d.toList.length = l.length := by simpa using hl
  by_cases hj : j < d.toList.length * 3
  · rw [List.getElem?_take_of_lt hj, Array.getElem?_toList, flat_atF _ _ hj]
    have hs : j < cur.size := by omega
    simp only [putCells, Array.getElem?_mapIdx, Array.getElem?_eq_getElem hs, Option.map_some, Nat.zero_le, Nat.zero_add, true_and, size_flatK, Nat.sub_zero, id]
    rw [if_pos (by simpa using hj), Array.toArray_toList]
  · rw [List.getElem?_take_eq_none (by omega), List.getElem?_eq_none (by rw [cellsS_len]; omega)]
def cfF (x y : FS) : Int := cmpS x.file.name y.file.name
theorem lt_cfF (x y : FS) : ltOf cfF x y = Op.bytesLess x.file.name.toList y.file.name.toList := by
  rw [← lt_cmpS]
  rfl
theorem swo_cfF : SWO (ltOf cfF) where
  irrefl x := by rw [lt_cfF]; exact bl_irrefl _
  trans x y z h1 h2 := by rw [lt_cfF] at *; exact bl_trans _ _ _ h1 h2
  ntrans x y z h1 h2 := by
    rw [lt_cfF] at *
    cases h : Op.bytesLess x.file.name.toList z.file.name.toList with
    | false => rfl
    | true =>
      cases h3 : Op.bytesLess y.file.name.toList x.file.name.toList with
      | true => rw [bl_trans _ _ _ h3 h] at h2; cases h2
      | false =>
        have := bl_tri _ _ h1 h3
        rw [this, h2] at h
        cases h
theorem perm_ofF {l : List FS} {d : Array FS} (h : PermIn 0 l.toArray.size l.toArray d) : l.Perm d.toList := by
  have h2 := h.2.2
  have hs : d.size = l.toArray.size := h.1
  rw [← hs, Array.extract_eq_self_of_le (Nat.le_refl _), hs, Array.extract_eq_self_of_le (Nat.le_refl _)] at h2
  exact h2.symm
/-- Names do not fall. -/
def UpF (l : List FS) : Prop := l.Pairwise fun x y => Op.bytesLess y.file.name.toList x.file.name.toList = false
theorem up_ofF {d : Array FS} {n : Nat} (hn : d.size = n) (h : SortedIn (ltOf cfF) 0 n d) : UpF d.toList := by
  unfold UpF
  rw [List.pairwise_iff_getElem]
  intro i j hi hj hij
  have hj' : j < d.size := by simpa using hj
  have hi' : i < d.size := by omega
  have := h i j (Nat.zero_le _) hij (by omega)
  rw [lt_cfF, getElem!_pos d j hj', getElem!_pos d i hi'] at this
  simp only [Array.getElem_toList]
  exact this
set_option maxHeartbeats 1000000 in
theorem riseFnF (x y : FS) (W : World) : Calls Tryz.prog 81 #[.agg #[.string x.file.name, .int .i64 x.file.size, .slice x.q x.n x.c], .agg #[.string y.file.name, .int .i64 y.file.size, .slice y.q y.n y.c]] W fun e w' => e = .returned (.int .i64 (cfF x y)) ∧ ∃ q os', w' = grow (W.drewN q) os' := by
  have hcon := fun W' => cmpStr_any x.file.name y.file.name W'
  unfold cfF
  generalize cmpS x.file.name y.file.name = r at hcon ⊢
  go_enter Tryz.func81, Tryz.ntmps81
  go_wp2_with (go_at_call 82; refine (hcon _).mono ?_; rintro e w' ⟨rfl, rfl⟩)
  go_ret
  exact ⟨rfl, 0, _, by rw [alloc_eq_grow, alloc_eq_grow, grow_grow]; rfl⟩
theorem riseLaysF (blk off size : Nat) (w : World) : CmpLays Tryz.prog 81 #[] encF 3 cfF blk off size w := fun _ _ _ _ x y => riseFnF x y _
theorem enters_riseF : ∀ args w, (callFunc 81 args).run Tryz.prog w = .ok (.enter 81 args) w := enters_of Tryz.func81 (by kernel_rfl) rfl
/-- slices.SortFunc of a row of files of one's own. -/
theorem sort_files (base base0 : Nat) (v : Value) (ls : FPs) (w : World) (ho : FMix w base base0 v ls) (hn : ls.length ≤ 100000) :
    Calls Tryz.prog 80 #[v, .func (.func 81) #[] #[]] w fun e w' => e = .returned (.tuple #[]) ∧ ∃ ss, FMix w' base base0 v ss ∧ ls.Perm ss ∧ (ss.Pairwise fun x y => Op.bytesLess y.1.name.toList x.1.name.toList = false) ∧ w.grownBy w' v.ownBlock := by
  obtain ⟨l, rfl⟩ := fs_of ho.pcs
  rw [List.length_map] at hn
  rcases ho.row.2 with ⟨hv, h0⟩ | ⟨g, cap, cur, hv, hb, hg, h1, h2, h3, h4⟩
  · have hl : l = [] := by rw [List.length_map] at h0; exact List.eq_nil_of_length_eq_zero h0
    subst hl
    subst hv
    refine (AnyF.slices_SortFunc_none laysSortF none 0 _ w).mono ?_
    rintro e w' ⟨rfl, rfl⟩
    exact ⟨rfl, [], ho, List.Perm.refl _, List.Pairwise.nil, ⟨rfl, rfl, rfl, Nat.le_refl _, fun _ _ _ => rfl⟩⟩
  · rw [List.length_map] at hv h1 h4
    subst hv
    have hcon := AnyQ.slices_SortFunc laysSortF 3 Tryz.isAgg50 Tryz.sizeOf50 encF (fun _ => rfl) (fun x v hv => by simp [encF] at hv; rcases hv with rfl | rfl | rfl <;> rfl) cfF swo_cfF 81 #[] g 0 cap l.toArray w enters_riseF (riseLaysF g 0 _ w) (holds_ownF hg h4) (lt_heap hg) (by simp; omega)
    refine hcon.mono ?_
    rintro e w' ⟨rfl, d', n, os, hp, hs, rfl⟩
    have hsz : d'.size = l.length := by simpa using hp.1
    have hpm := perm_ofF hp
    have hgr : w.grownBy (sortWorldK encF 3 w g 0 n d' os) (some g) := grown_riseF d'
    refine ⟨rfl, d'.toList.map FS.fp, ⟨?_, fun x hx => ?_⟩, hpm.map _, ?_, hgr⟩
    · rw [List.length_map]
      exact own_riseF hsz hb hg h1 h2 h3
    · have hx' : x ∈ l.map FS.fp := (hpm.map _).mem_iff.2 hx
      exact (ho.pcs x hx').kept hgr (apart_own (ho.pcs x hx') ho.row (by decide))
    · rw [List.pairwise_map]
      exact up_ofF hp.1 hs
end Go.Proofs.YtkgmhmhphgaclabGreatDoor
