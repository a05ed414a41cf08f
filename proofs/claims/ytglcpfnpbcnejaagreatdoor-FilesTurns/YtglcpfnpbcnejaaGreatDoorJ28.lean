/-
  The bytes of the directory that is to come (writeNext).
-/
import Derived.Shelf.SlGeneric
import Derived.Ground.SlgcProg
import Derived.Ground.SlsfProg
import Derived.Shelf.SlicesG.Cmp
import Derived.Shelf.SlSortCmp.WholeK
import Derived.Shelf.SlSortCmp.NoneTotal
import Derived.Test.YtglcpfnpbcnejaaGreatDoorProg
import Derived.Test.YtglcpfnpbcnejaaGreatDoorJ27
import Derived.Lib.Bytealg
import Derived.Lib.Strings
import Derived.Lib.Walk
import Derived.Test.YtglcpfnpbcnejaaGreatDoorJ06
namespace Go.Proofs.YtglcpfnpbcnejaaGreatDoor
open Go.Shelf
def laysSortF_ren : Go.Shelf.Ren := ⟨fun | 6 => 108 | 15 => 141 | 14 => 140 | 28 => 167 | 29 => 168 | 20 => 159 | 21 => 160 | 22 => 161 | 23 => 162 | 24 => 163 | 25 => 164 | 26 => 165 | 27 => 166 | 46 => 178 | 47 => 179 | 48 => 180 | 49 => 181 | 50 => 182 | 57 => 186 | n => n, fun | 22 => 29 | 24 => 51 | 25 => 173 | 3 => 3 | 39 => 213 | 0 => 0 | 53 => 246 | 55 => 141 | 4 => 4 | 46 => 239 | 45 => 238 | 50 => 243 | 5 => 5 | 9 => 9 | 66 => 256 | 70 => 260 | 76 => 264 | 77 => 177 | n => n, fun | n => n⟩
theorem laysSortF : Go.Proofs.SlLaysF0.n6 Tryz.prog laysSortF_ren := {
  mixed := by kernel_rfl
  f6 := ⟨Tryz.f108.name, by decide, Tryz.func108.trans (congrArg some (by kernel_rfl))⟩
  f14 := ⟨Tryz.f140.name, by decide, Tryz.func140.trans (congrArg some (by kernel_rfl))⟩
  f15 := Tryz.func141.trans (congrArg some (by kernel_rfl))
  f20 := ⟨Tryz.f159.name, by decide, Tryz.func159.trans (congrArg some (by kernel_rfl))⟩
  f21 := ⟨Tryz.f160.name, by decide, Tryz.func160.trans (congrArg some (by kernel_rfl))⟩
  f22 := ⟨Tryz.f161.name, by decide, Tryz.func161.trans (congrArg some (by kernel_rfl))⟩
  f23 := ⟨Tryz.f162.name, by decide, Tryz.func162.trans (congrArg some (by kernel_rfl))⟩
  f24 := ⟨Tryz.f163.name, by decide, Tryz.func163.trans (congrArg some (by kernel_rfl))⟩
  f25 := ⟨Tryz.f164.name, by decide, Tryz.func164.trans (congrArg some (by kernel_rfl))⟩
  f26 := ⟨Tryz.f165.name, by decide, Tryz.func165.trans (congrArg some (by kernel_rfl))⟩
  f27 := ⟨Tryz.f166.name, by decide, Tryz.func166.trans (congrArg some (by kernel_rfl))⟩
  f28 := Tryz.func167.trans (congrArg some (by kernel_rfl))
  f29 := Tryz.func168.trans (congrArg some (by kernel_rfl))
  f46 := ⟨Tryz.f178.name, by decide, Tryz.func178.trans (congrArg some (by kernel_rfl))⟩
  f47 := Tryz.func179.trans (congrArg some (by kernel_rfl))
  f48 := Tryz.func180.trans (congrArg some (by kernel_rfl))
  f49 := ⟨Tryz.f181.name, by decide, Tryz.func181.trans (congrArg some (by kernel_rfl))⟩
  f50 := ⟨Tryz.f182.name, by decide, Tryz.func182.trans (congrArg some (by kernel_rfl))⟩
  f57 := ⟨Tryz.f186.name, by decide, Tryz.func186.trans (congrArg some (by kernel_rfl))⟩
  t0 := Tryz.underlying0
  a0 := Tryz.isAgg0
  z0 := Tryz.sizeOf0
  v0 := Tryz.zeroValue0
  t3 := Tryz.underlying3
  a3 := Tryz.isAgg3
  z3 := Tryz.sizeOf3
  v3 := Tryz.zeroValue3
  t4 := Tryz.underlying4
  a4 := Tryz.isAgg4
  z4 := Tryz.sizeOf4
  v4 := Tryz.zeroValue4
  t5 := Tryz.underlying5
  a5 := Tryz.isAgg5
  z5 := Tryz.sizeOf5
  v5 := Tryz.zeroValue5
  t9 := Tryz.underlying9
  a9 := Tryz.isAgg9
  z9 := Tryz.sizeOf9
  v9 := Tryz.zeroValue9
  t22 := Tryz.underlying29
  a22 := Tryz.isAgg29
  z22 := Tryz.sizeOf29
  v22 := Tryz.zeroValue29
  t25 := Tryz.underlying173
  a25 := Tryz.isAgg173
  z25 := Tryz.sizeOf173
  v25 := Tryz.zeroValue173
  t39 := Tryz.underlying213
  a39 := Tryz.isAgg213
  z39 := Tryz.sizeOf213
  v39 := Tryz.zeroValue213
  t45 := Tryz.underlying238
  a45 := Tryz.isAgg238
  z45 := Tryz.sizeOf238
  v45 := Tryz.zeroValue238
  t46 := Tryz.underlying239
  a46 := Tryz.isAgg239
  z46 := Tryz.sizeOf239
  v46 := Tryz.zeroValue239
  t50 := Tryz.underlying243
  a50 := Tryz.isAgg243
  z50 := Tryz.sizeOf243
  v50 := Tryz.zeroValue243
  t53 := Tryz.underlying246
  a53 := Tryz.isAgg246
  z53 := Tryz.sizeOf246
  v53 := Tryz.zeroValue246
  t55 := Tryz.underlying141
  a55 := Tryz.isAgg141
  z55 := Tryz.sizeOf141
  v55 := Tryz.zeroValue141
  t66 := Tryz.underlying256
  a66 := Tryz.isAgg256
  z66 := Tryz.sizeOf256
  v66 := Tryz.zeroValue256
  t70 := Tryz.underlying260
  a70 := Tryz.isAgg260
  z70 := Tryz.sizeOf260
  v70 := Tryz.zeroValue260
  t76 := Tryz.underlying264
  a76 := Tryz.isAgg264
  z76 := Tryz.sizeOf264
  v76 := Tryz.zeroValue264
  t77 := Tryz.underlying177
  a77 := Tryz.isAgg177
  z77 := Tryz.sizeOf177
  v77 := Tryz.zeroValue177 }
end Go.Proofs.YtglcpfnpbcnejaaGreatDoor
namespace Go.Proofs.YtglcpfnpbcnejaaGreatDoor
open Go.RowKit Go.WideShapes Rm

def cmpS (a b : ByteArray) : Int := Lib.compareBytes a.data.toList b.data.toList
theorem bytesLess_cmp : ∀ (a b : List UInt8), Op.bytesLess a b = decide (Lib.compareBytes a b < 0)
  | [], [] => by simp [Op.bytesLess, Lib.compareBytes]
  | [], _ :: _ => by simp [Op.bytesLess, Lib.compareBytes]
  | _ :: _, [] => by simp [Op.bytesLess, Lib.compareBytes]
  | x :: a, y :: b => by
    unfold Lib.compareBytes Op.bytesLess
    by_cases h1 : x < y
    · simp [h1]
    · by_cases h2 : y < x
      · have : ¬ x = y := by intro e; subst e; exact UInt8.lt_irrefl x h2
        simp [h1, h2, this]
      · have : x = y := UInt8.le_antisymm (UInt8.not_lt.1 h2) (UInt8.not_lt.1 h1)
        subst this
        rw [bytesLess_cmp a b]
        simp [UInt8.lt_irrefl x]
theorem bl_irrefl : ∀ (a : List UInt8), Op.bytesLess a a = false
  | [] => rfl
  | x :: a => by
    unfold Op.bytesLess
    simp [UInt8.lt_irrefl x, bl_irrefl a]
theorem bl_trans : ∀ (a b c : List UInt8), Op.bytesLess a b = true → Op.bytesLess b c = true → Op.bytesLess a c = true
  | [], b, [], _, h2 => by cases b <;> simp [Op.bytesLess] at h2
  | [], _, _ :: _, _, _ => rfl
  | _ :: _, [], _, h1, _ => by simp [Op.bytesLess] at h1
  | _ :: _, _ :: _, [], _, h2 => by simp [Op.bytesLess] at h2
  | x :: a, y :: b, z :: c, h1, h2 => by
    unfold Op.bytesLess at h1 h2 ⊢
    simp only [Bool.or_eq_true, Bool.and_eq_true, decide_eq_true_eq, beq_iff_eq] at h1 h2 ⊢
    rcases h1 with h1 | ⟨h1, h1'⟩
    · rcases h2 with h2 | ⟨h2, _⟩
      · exact .inl (UInt8.lt_trans h1 h2)
      · subst h2; exact .inl h1
    · subst h1
      rcases h2 with h2 | ⟨h2, h2'⟩
      · exact .inl h2
      · exact .inr ⟨h2, bl_trans a b c h1' h2'⟩
theorem bl_tri : ∀ (a b : List UInt8), Op.bytesLess a b = false → Op.bytesLess b a = false → a = b
  | [], [], _, _ => rfl
  | [], _ :: _, h1, _ => by simp [Op.bytesLess] at h1
  | _ :: _, [], _, h2 => by simp [Op.bytesLess] at h2
  | x :: a, y :: b, h1, h2 => by
    unfold Op.bytesLess at h1 h2
    simp only [Bool.or_eq_false_iff, Bool.and_eq_false_iff, decide_eq_false_iff_not, beq_eq_false_iff_ne, ne_eq] at h1 h2
    have hxy : x = y := UInt8.le_antisymm (UInt8.not_lt.1 h2.1) (UInt8.not_lt.1 h1.1)
    subst hxy
    rw [bl_tri a b (by simpa using h1.2) (by simpa using h2.2)]

theorem lt_cmpS (a b : ByteArray) : decide (cmpS a b < 0) = Op.bytesLess a.toList b.toList := by
  rw [ByteArray.toList_eq, ByteArray.toList_eq, bytesLess_cmp]
  rfl
set_option maxHeartbeats 1000000 in
set_option maxRecDepth 100000 in
theorem bytealg_any (a b : ByteArray) (w : World) :
    Calls Tryz.prog 142 #[.string a, .string b] w fun e w' => e = .returned (.int .i64 (cmpS a b)) ∧ w' = w := by
  go_enter Tryz.func142, Tryz.ntmps142
  go_wp2
  rw [run_callFunc_extern Tryz.func169 (by kernel_rfl) (by kernel_rfl) (by kernel_rfl) (e := Extern.BytealgCompare.compare) (by kernel_rfl), Lib.run_compareString]
  simp only [Result.andThen]
  rw [Oper.upon_value]
  go_wp2
  go_ret
  exact ⟨rfl, rfl⟩
theorem cmpStr_any (a b : ByteArray) (w : World) :
    Calls Tryz.prog 110 #[.string a, .string b] w fun e w' => e = .returned (.int .i64 (cmpS a b)) ∧ w' = w := by
  go_enter Tryz.func110, Tryz.ntmps110
  go_wp2_with (go_at_call 142; refine (bytealg_any _ _ _).mono ?_; rintro e w' ⟨rfl, rfl⟩)
  go_ret
  exact ⟨rfl, rfl⟩
end Go.Proofs.YtglcpfnpbcnejaaGreatDoor
namespace Go.Proofs.YtglcpfnpbcnejaaGreatDoor
open Go.RowKit Go.WideShapes Go.Shelf Go.Lib Go.Sort Rm

/-- A file with its slice of pieces, told by its parts. -/
structure FS where
  file : FileV
  q : Option Addr
  n : Nat
  c : Nat
instance : Inhabited FS := ⟨⟨zeroF, none, 0, 0⟩⟩
def FS.fp (x : FS) : FileV × Value := (x.file, .slice x.q x.n x.c)
def encF (x : FS) : List Value := [.string x.file.name, .int .i64 x.file.size, .slice x.q x.n x.c]
def cellsS (l : List FS) : List Value := cellsF (l.map FS.fp)
theorem cellsS_len (l : List FS) : (cellsS l).length = l.length * 3 := by unfold cellsS; rw [cellsF_len, List.length_map]
theorem fs_of {w : World} {base : Nat} : ∀ {ls : FPs}, (∀ x ∈ ls, POwn w base x.2 x.1.pcs) → ∃ l : List FS, l.map FS.fp = ls
  | [], _ => ⟨[], rfl⟩
  | x :: ls, h => by
    obtain ⟨l, hl⟩ := fs_of (ls := ls) (fun y hy => h y (by simp [hy]))
    obtain ⟨q, m, e, _⟩ := (h x (by simp)).form
    refine ⟨⟨x.1, q, x.1.pcs.length, m⟩ :: l, ?_⟩
    rw [List.map_cons, hl]
    congr 1
    unfold FS.fp
    rw [← e]
theorem flat_atF (l : List FS) (t : Nat) (h : t < l.length * 3) : (cellsS l)[t]? = some (flatK encF 3 l.toArray)[t]! := by
  rw [get_flatK _ _ _ _ (by simpa using h)]
  have hd : t / 3 < l.length := by omega
  have hm : (l.map FS.fp)[t / 3]? = some (l[t / 3]).fp := by rw [List.getElem?_map, List.getElem?_eq_getElem hd]; rfl
  obtain ⟨h0, h1, h2⟩ := cellsF_at (l.map FS.fp) (t / 3) _ hm
  have e : l.toArray[t / 3]! = l[t / 3] := by
    rw [getElem!_pos l.toArray (t / 3) (by simpa using hd)]
    simp
  rw [e]
  have hc : t % 3 = 0 ∨ t % 3 = 1 ∨ t % 3 = 2 := by omega
  unfold cellsS
  rcases hc with hm | hm | hm
  · rw [hm]
    rw [show t / 3 * 3 = t from by omega] at h0
    rw [h0]; rfl
  · rw [hm]
    rw [show t / 3 * 3 + 1 = t from by omega] at h1
    rw [h1]; rfl
  · rw [hm]
    rw [show t / 3 * 3 + 2 = t from by omega] at h2
    rw [h2]; rfl
theorem holds_ownF {w : World} {g : Nat} {cur : Array Value} {e : TypeId} {l : List FS} (hb : w.heap[g]? = some (.cells cur e (0, 0))) (ht : cur.toList.take (l.length * 3) = cellsS l) : HoldsK encF 3 w g 0 l.toArray := by
  intro j hj
  have hj' : j < l.length * 3 := by simpa using hj
  refine ⟨?_, frozen_of_row _ _ _ _ _ hb⟩
  have h1 := flat_atF l j hj'
  rw [← ht, List.getElem?_take_of_lt hj'] at h1
  rw [Nat.zero_add, cell_of_row w g j _ _ _ hb, ← Array.getElem?_toList, h1]
  rfl
theorem heap_riseF {w : World} {g n : Nat} {os : Array Obj} {cur : Array Value} {e : TypeId} {fr : Nat × Nat} (d : Array FS) (hb : w.heap[g]? = some (.cells cur e fr)) :
    (sortWorldK encF 3 w g 0 n d os).heap[g]? = some (.cells (putCells id 0 (flatK encF 3 d) cur) e fr) := by
  have hg : g < w.heap.size := (Array.getElem?_eq_some_iff.1 hb).1
  unfold sortWorldK putRowK
  rw [heap_grow_old _ _ (by simpa using hg)]
  simp [putRow, mapBlock, Sort.ahead, Array.getElem?_modify, hb, onCells]
theorem grown_riseF {w : World} {g n : Nat} {os : Array Obj} (d : Array FS) : w.grownBy (sortWorldK encF 3 w g 0 n d os) (some g) := by
  refine ⟨rfl, rfl, rfl, by unfold sortWorldK putRowK; simp, fun k hk hne => ?_⟩
  unfold sortWorldK putRowK
  rw [heap_grow_old _ _ (by simpa using hk)]
  have : g ≠ k := fun e => hne (by rw [e])
  simp [putRow, mapBlock, Sort.ahead, Array.getElem?_modify, this]
theorem own_riseF {w : World} {base g cap n : Nat} {os : Array Obj} {cur : Array Value} {l : List FS} {d : Array FS} (hl : d.size = l.length) (hbase : base ≤ g) (hb : w.heap[g]? = some (.cells cur 51 (0, 0)))
    (h1 : l.length ≤ cap) (h2 : cap ≤ maxLen) (h3 : cur.size = cap * 3) : (sortWorldK encF 3 w g 0 n d os).ownsRow base 51 3 (.slice (some ⟨g, 0, none⟩) l.length cap) d.toList.length (cellsS d.toList) := by
  refine ⟨by rw [cellsS_len], .inr ⟨g, cap, _, by simp [hl], hbase, heap_riseF d hb, by simpa [hl] using h1, h2, by simp [putCells, h3], ?_⟩⟩
  apply List.ext_getElem?
  intro j
  have hdl : d.toList.length = l.length := by simpa using hl
  by_cases hj : j < d.toList.length * 3
  · rw [List.getElem?_take_of_lt hj, Array.getElem?_toList, flat_atF _ _ hj]
    have hs : j < cur.size := by omega
    simp only [putCells, Array.getElem?_mapIdx, Array.getElem?_eq_getElem hs, Option.map_some, Nat.zero_le, Nat.zero_add, true_and, size_flatK, Nat.sub_zero, id]
    rw [if_pos (by simpa using hj), Array.toArray_toList]
  · rw [List.getElem?_take_eq_none (by omega), List.getElem?_eq_none (by rw [cellsS_len]; omega)]
def cfF (x y : FS) : Int := cmpS x.file.name y.file.name
theorem lt_cfF (x y : FS) : ltOf cfF x y = Op.bytesLess x.file.name.toList y.file.name.toList := by
  rw [← lt_cmpS]
  rfl
theorem swo_cfF : SWO (ltOf cfF) where
  irrefl x := by rw [lt_cfF]; exact bl_irrefl _
  trans x y z h1 h2 := by rw [lt_cfF] at *; exact bl_trans _ _ _ h1 h2
  ntrans x y z h1 h2 := by
    rw [lt_cfF] at *
    cases h : Op.bytesLess x.file.name.toList z.file.name.toList with
    | false => rfl
    | true =>
      cases h3 : Op.bytesLess y.file.name.toList x.file.name.toList with
      | true => rw [bl_trans _ _ _ h3 h] at h2; cases h2
      | false =>
        have := bl_tri _ _ h1 h3
        rw [this, h2] at h
        cases h
theorem perm_ofF {l : List FS} {d : Array FS} (h : PermIn 0 l.toArray.size l.toArray d) : l.Perm d.toList := by
  have h2 := h.2.2
  have hs : d.size = l.toArray.size := h.1
  rw [← hs, Array.extract_eq_self_of_le (Nat.le_refl _), hs, Array.extract_eq_self_of_le (Nat.le_refl _)] at h2
  exact h2.symm
/-- Names do not fall. -/
def UpF (l : List FS) : Prop := l.Pairwise fun x y => Op.bytesLess y.file.name.toList x.file.name.toList = false
theorem up_ofF {d : Array FS} {n : Nat} (hn : d.size = n) (h : SortedIn (ltOf cfF) 0 n d) : UpF d.toList := by
  unfold UpF
  rw [List.pairwise_iff_getElem]
  intro i j hi hj hij
  have hj' : j < d.size := by simpa using hj
  have hi' : i < d.size := by omega
  have := h i j (Nat.zero_le _) hij (by omega)
  rw [lt_cfF, getElem!_pos d j hj', getElem!_pos d i hi'] at this
  simp only [Array.getElem_toList]
  exact this
set_option maxHeartbeats 1000000 in
theorem riseFnF (x y : FS) (W : World) : Calls Tryz.prog 109 #[.agg #[.string x.file.name, .int .i64 x.file.size, .slice x.q x.n x.c], .agg #[.string y.file.name, .int .i64 y.file.size, .slice y.q y.n y.c]] W fun e w' => e = .returned (.int .i64 (cfF x y)) ∧ ∃ q os', w' = grow (W.drewN q) os' := by
  have hcon := fun W' => cmpStr_any x.file.name y.file.name W'
  unfold cfF
  generalize cmpS x.file.name y.file.name = r at hcon ⊢
  go_enter Tryz.func109, Tryz.ntmps109
  go_wp2_with (go_at_call 110; refine (hcon _).mono ?_; rintro e w' ⟨rfl, rfl⟩)
  go_ret
  exact ⟨rfl, 0, _, by rw [alloc_eq_grow, alloc_eq_grow, grow_grow]; rfl⟩
theorem riseLaysF (blk off size : Nat) (w : World) : CmpLays Tryz.prog 109 #[] encF 3 cfF blk off size w := fun _ _ _ _ x y => riseFnF x y _
theorem enters_riseF : ∀ args w, (callFunc 109 args).run Tryz.prog w = .ok (.enter 109 args) w := enters_of Tryz.func109 (by kernel_rfl) rfl
/-- slices.SortFunc of a row of files of one's own. -/
theorem sort_files (base base0 : Nat) (v : Value) (ls : FPs) (w : World) (ho : FMix w base base0 v ls) (hn : ls.length ≤ 100000) :
    Calls Tryz.prog 108 #[v, .func (.func 109) #[] #[]] w fun e w' => e = .returned (.tuple #[]) ∧ ∃ ss, FMix w' base base0 v ss ∧ ls.Perm ss ∧ (ss.Pairwise fun x y => Op.bytesLess y.1.name.toList x.1.name.toList = false) ∧ w.grownBy w' v.ownBlock := by
  obtain ⟨l, rfl⟩ := fs_of ho.pcs
  rw [List.length_map] at hn
  rcases ho.row.2 with ⟨hv, h0⟩ | ⟨g, cap, cur, hv, hb, hg, h1, h2, h3, h4⟩
  · have hl : l = [] := by rw [List.length_map] at h0; exact List.eq_nil_of_length_eq_zero h0
    subst hl
    subst hv
    refine (AnyF.slices_SortFunc_none laysSortF none 0 _ w).mono ?_
    rintro e w' ⟨rfl, rfl⟩
    exact ⟨rfl, [], ho, List.Perm.refl _, List.Pairwise.nil, ⟨rfl, rfl, rfl, Nat.le_refl _, fun _ _ _ => rfl⟩⟩
  · rw [List.length_map] at hv h1 h4
    subst hv
    have hcon := AnyQ.slices_SortFunc laysSortF 3 Tryz.isAgg51 Tryz.sizeOf51 encF (fun _ => rfl) (fun x v hv => by simp [encF] at hv; rcases hv with rfl | rfl | rfl <;> rfl) cfF swo_cfF 109 #[] g 0 cap l.toArray w enters_riseF (riseLaysF g 0 _ w) (holds_ownF hg h4) (lt_heap hg) (by simp; omega)
    refine hcon.mono ?_
    rintro e w' ⟨rfl, d', n, os, hp, hs, rfl⟩
    have hsz : d'.size = l.length := by simpa using hp.1
    have hpm := perm_ofF hp
    have hgr : w.grownBy (sortWorldK encF 3 w g 0 n d' os) (some g) := grown_riseF d'
    refine ⟨rfl, d'.toList.map FS.fp, ⟨?_, fun x hx => ?_⟩, hpm.map _, ?_, hgr⟩
    · rw [List.length_map]
      exact own_riseF hsz hb hg h1 h2 h3
    · have hx' : x ∈ l.map FS.fp := (hpm.map _).mem_iff.2 hx
      exact (ho.pcs x hx').kept hgr (apart_own (ho.pcs x hx') ho.row (by decide))
    · rw [List.pairwise_map]
      exact up_ofF hp.1 hs
end Go.Proofs.YtglcpfnpbcnejaaGreatDoor
namespace Go.Proofs.YtglcpfnpbcnejaaGreatDoor
open Go.RowKit Go.WideShapes Rm

/-- What writeNext answers. -/
structure WNextP (w : World) (base base0 : Nat) (v : Value) (G : Int) (ls : FPs) (e : Ending) (w' : World) : Prop where
  ex : (G = 4611686018427387904 ∧ w' = w ∧ ∃ ev, e = .returned (.tuple #[.slice none 0 0, ev]) ∧ Faults ev 42) ∨
    (G ≠ 4611686018427387904 ∧ ∃ ss r ev n b, e = .returned (.tuple #[r, ev]) ∧ ls.Perm ss ∧ (ss.Pairwise fun x y => Op.bytesLess y.1.name.toList x.1.name.toList = false) ∧ Wrote ⟨G, ss.map Prod.fst⟩ n b ∧ ErrV ev n ∧ w'.ownsRow w.heap.size 5 1 r b.length (Bs b) ∧ FMix w' base base0 v ss ∧ w.grownBy w' v.ownBlock)
theorem allPcs_perm {ls ss : FPs} (h : ls.Perm ss) : (allPcs (ls.map Prod.fst)).length = (allPcs (ss.map Prod.fst)).length := by
  unfold allPcs
  exact ((h.map _).flatMap_right _).length_eq
set_option maxRecDepth 8000 in
set_option maxHeartbeats 2000000 in
theorem writeNext_any (G : Int) (v : Value) (ls : FPs) (base base0 : Nat) (w : World) (hG : wf64 G) (hb : base0 ≤ base) (ho : FMix w base base0 v ls) (hn : ls.length ≤ 100000) (hwf : ∀ x ∈ ls, Wf x.1.pcs ∧ wf64 x.1.size ∧ (x.1.name.size : Int) ≤ 9223372036854775807) (hsum : (allPcs (ls.map Prod.fst)).length ≤ 1000000) :
    Calls Tryz.prog 72 #[.int .i64 G, v] w fun e w' => WNextP w base base0 v G ls e w' := by
  have hst := sort_files base base0 v ls w ho hn
  obtain ⟨q, m, rfl, _⟩ := ho.form
  have HH : Hid (wf64 G ∧ base0 ≤ base ∧ ls.length ≤ 100000 ∧ (∀ x ∈ ls, Wf x.1.pcs ∧ wf64 x.1.size ∧ (x.1.name.size : Int) ≤ 9223372036854775807) ∧ (allPcs (ls.map Prod.fst)).length ≤ 1000000) := ⟨hG, hb, hn, hwf, hsum⟩
  obtain ⟨L, hL⟩ : ∃ L, ls.length = L := ⟨_, rfl⟩
  have HL : Hid (ls.length = L) := hL
  rw [hL] at hst ⊢
  clear ho hG hb hn hwf hsum hL
  by_cases h0 : G = 4611686018427387904
  · subst h0
    clear hst
    go_enter Tryz.func72, Tryz.ntmps72
    go_wp2
    go_ret2
    exact ⟨.inl ⟨rfl, rfl, _, rfl, Faults.one _ _⟩⟩
  · have HG : Hid (G ≠ 4611686018427387904) := h0
    have g1 : (G == 4611686018427387904) = false := by simpa using h0
    clear h0
    go_enter Tryz.func72, Tryz.ntmps72
    go_wp2_with fail
    refine hst.mono ?_
    rintro e w1 ⟨rfl, ss, hss, hpm, hup, hgr⟩
    have hlen : ss.length = L := by rw [← hpm.length_eq]; exact HL.out
    have hmem : ∀ x ∈ ss, Wf x.1.pcs ∧ wf64 x.1.size ∧ (x.1.name.size : Int) ≤ 9223372036854775807 := fun x hx => HH.out.2.2.2.1 x (hpm.mem_iff.2 hx)
    have hdir : DirIn w1 (.agg #[.int .i64 G, .slice q L m]) ⟨G, ss.map Prod.fst⟩ := ⟨⟨_, rfl, (hss.own HH.out.2.1).fin (fun x hx => (hmem x hx).1) (fun x hx => (hmem x hx).2.1)⟩, HH.out.1⟩
    have hwr := write_any _ ⟨G, ss.map Prod.fst⟩ w1 hdir (fun f hf => by obtain ⟨x, hx, rfl⟩ := List.mem_map.1 hf; exact (hmem x hx).2.2) (by rw [← allPcs_perm hpm]; exact HH.out.2.2.2.2)
    have HS : Hid (ls.Perm ss ∧ (ss.Pairwise fun x y => Op.bytesLess y.1.name.toList x.1.name.toList = false) ∧ FMix w1 base base0 (.slice q L m) ss ∧ w.grownBy w1 (Value.slice q L m).ownBlock) := ⟨hpm, hup, hss, hgr⟩
    clear hst hss hpm hup hgr hlen hmem hdir
    go_wp2_with fail
    refine hwr.mono ?_
    rintro e w2 ⟨r, ev, n, b, rfl, hw, hev, hown, hb2⟩
    have HF : Hid (WNextP w base base0 (.slice q L m) G ls (.returned (.tuple #[r, ev])) w2) := ⟨.inr ⟨HG.out, ss, r, ev, n, b, rfl, HS.out.1, HS.out.2.1, hw, hev, own_mono hown HS.out.2.2.2.size, HS.out.2.2.1.below hb2, grown_trans HS.out.2.2.2 (grown_below hb2 _)⟩⟩
    obtain ⟨rq, rm, rfl, _⟩ := own_form hown
    have hev2 : (∃ tx vx, ev = .iface tx vx) ∨ ev = .nilIface := by
      rcases hev with ⟨_, h⟩ | ⟨_, h⟩
      · exact .inr h
      · exact .inl h.iface
    clear hwr hw hev hown hb2 HS
    rcases hev2 with ⟨tx, vx, rfl⟩ | rfl
    · go_wp2
      go_ret2
      exact HF.out
    · go_wp2
      go_ret2
      exact HF.out
end Go.Proofs.YtglcpfnpbcnejaaGreatDoor
