import Derived.Test.YtblnoekogdpolaaDoorJRdA
import Derived.Test.YtblnoekogdpolaaDoorJRead
import Derived.Test.YtblnoekogdpolaaDoorJSt
import Derived.Test.YtblnoekogdpolaaDoorProg
import Derived.Shelf.Unicode.DecodeAny
import Derived.Shelf.Unicode.ValidAny
import Derived.Ground.NamesProg
import Derived.Shelf.Strconv.ErrVarParseInt
import Derived.Lib.LaidTab
import Derived.Lib.ItoaNum
import Derived.Test.YtblnoekogdpolaaDoorJUtf
import Derived.Test.YtblnoekogdpolaaDoorRows
import Derived.Test.YtblnoekogdpolaaDoorChecked
import Derived.ChangeSame
import Derived.ChangeVars
import Derived.JoinedOf
import Derived.RowKit
import Derived.RowKitTokens
import Derived.LaidSub
import Derived.LaidLaws
import Derived.LaidHandle
import Derived.Lib.LaidU8T
import Derived.Stop.Joined
import Derived.Stop.LaidErr
import Derived.Lay
namespace Go.Proofs.YtblnoekogdpolaaDoor
open Go.RowKit Go.WideShapes Go.Joins
def Gives {α : Type} (p : J.Rd α) (σ : RS) (V : α) : Prop := ∀ v, (goR p σ).2 = some v → v = V
theorem goR_thenV {α β : Type} {p : J.Rd α} {q : α → J.Rd β} (hp : J.Good p) {σ : RS} {V : α} (h : Gives p σ V) : goR (p.then q) σ = goR (q V) (goR p σ).1 := by
  cases hg : goR p σ with
  | mk σ1 o =>
    cases o with
    | some v =>
      have : v = V := h v (by rw [hg])
      subst this
      exact goR_some hp hg
    | none =>
      obtain ⟨s, e, rfl⟩ := goR_over hg
      exact goR_none hp hg
theorem gives_get {α : Type} (p : J.Rd α) (σ : RS) (d : α) : Gives p σ ((goR p σ).2.getD d) := by
  intro v hv
  rw [hv]; rfl
theorem goR_pureV {α : Type} (v : α) {σ : RS} (ho : σ.ok) : (goR (J.Rd.pure v) σ).1 = σ ∧ Gives (J.Rd.pure v) σ v := by
  cases σ with
  | dead s e => exact ⟨rfl, fun _ h => by cases h⟩
  | live s i =>
    have := goR_pure v (show i ≤ s.size from ho)
    unfold Gives
    rw [this]
    exact ⟨rfl, fun _ h => by cases h; rfl⟩
theorem then_assoc {α β γ : Type} (p : J.Rd α) (q : α → J.Rd β) (r : β → J.Rd γ) : (p.then q).then r = p.then fun x => (q x).then r := by
  funext l
  unfold J.Rd.then
  cases p l <;> rfl
theorem pure_then {α β : Type} (v : α) (q : α → J.Rd β) : (J.Rd.pure v).then q = q v := by
  funext l; rfl
end Go.Proofs.YtblnoekogdpolaaDoor
namespace Go.Proofs.YtblnoekogdpolaaDoor
open Go.RowKit Go.WideShapes Go.Joins
theorem bs_one (c : Nat) : Bs [c] = [.int .u8 (c : Int)] := rfl
theorem strCells_Bs (s : ByteArray) : Lib.strCells s = Bs (numsOf s) := by
  simp [Lib.strCells, Bs, numsOf, List.map_map, Function.comp_def]
def signS : ByteArray := ⟨#[98, 102, 110, 114, 116]⟩
def worthS : ByteArray := ⟨#[8, 12, 10, 13, 9]⟩
end Go.Proofs.YtblnoekogdpolaaDoor
namespace Go.Proofs.YtblnoekogdpolaaDoor
open Go.Shelf
def lays197_ren : Go.Shelf.Ren := ⟨fun | 197 => 104 | 260 => 120 | n => n, fun | 9 => 9 | 21 => 21 | 3 => 3 | 4 => 4 | 5 => 5 | 105 => 121 | 119 => 113 | 0 => 0 | 46 => 117 | 139 => 116 | 138 => 115 | n => n, fun | 3 => 0 | 4 => 1 | n => n⟩
theorem lays197 : Go.Proofs.Lays.n197 Tryd.prog lays197_ren := {
  mixed := by kernel_rfl
  f197 := Tryd.func104.trans (congrArg some (by kernel_rfl))
  f260 := Tryd.func120.trans (congrArg some (by kernel_rfl))
  t0 := Tryd.underlying0
  a0 := Tryd.isAgg0
  z0 := Tryd.sizeOf0
  v0 := Tryd.zeroValue0
  t3 := Tryd.underlying3
  a3 := Tryd.isAgg3
  z3 := Tryd.sizeOf3
  v3 := Tryd.zeroValue3
  t4 := Tryd.underlying4
  a4 := Tryd.isAgg4
  z4 := Tryd.sizeOf4
  v4 := Tryd.zeroValue4
  t5 := Tryd.underlying5
  a5 := Tryd.isAgg5
  z5 := Tryd.sizeOf5
  v5 := Tryd.zeroValue5
  t9 := Tryd.underlying9
  a9 := Tryd.isAgg9
  z9 := Tryd.sizeOf9
  v9 := Tryd.zeroValue9
  t21 := Tryd.underlying21
  a21 := Tryd.isAgg21
  z21 := Tryd.sizeOf21
  v21 := Tryd.zeroValue21
  t46 := Tryd.underlying117
  a46 := Tryd.isAgg117
  z46 := Tryd.sizeOf117
  v46 := Tryd.zeroValue117
  t105 := Tryd.underlying121
  a105 := Tryd.isAgg121
  z105 := Tryd.sizeOf121
  v105 := Tryd.zeroValue121
  t119 := Tryd.underlying113
  a119 := Tryd.isAgg113
  z119 := Tryd.sizeOf113
  t138 := Tryd.underlying115
  a138 := Tryd.isAgg115
  z138 := Tryd.sizeOf115
  v138 := Tryd.zeroValue115
  t139 := Tryd.underlying116
  a139 := Tryd.isAgg116
  z139 := Tryd.sizeOf116
  v139 := Tryd.zeroValue116
  g3 := by kernel_rfl
  g4 := by kernel_rfl }
def lays196_ren : Go.Shelf.Ren := ⟨fun | 196 => 80 | 259 => 100 | n => n, fun | 9 => 9 | 4 => 4 | 3 => 3 | 5 => 5 | 12 => 12 | 119 => 113 | 0 => 0 | 46 => 117 | 139 => 116 | 138 => 115 | 53 => 128 | n => n, fun | 3 => 0 | 4 => 1 | n => n⟩
theorem lays196 : Go.Proofs.Lays.n196 Tryd.prog lays196_ren := {
  mixed := by kernel_rfl
  f196 := Tryd.func80.trans (congrArg some (by kernel_rfl))
  f259 := Tryd.func100.trans (congrArg some (by kernel_rfl))
  t0 := Tryd.underlying0
  a0 := Tryd.isAgg0
  z0 := Tryd.sizeOf0
  v0 := Tryd.zeroValue0
  t3 := Tryd.underlying3
  a3 := Tryd.isAgg3
  z3 := Tryd.sizeOf3
  v3 := Tryd.zeroValue3
  t4 := Tryd.underlying4
  a4 := Tryd.isAgg4
  z4 := Tryd.sizeOf4
  v4 := Tryd.zeroValue4
  t5 := Tryd.underlying5
  a5 := Tryd.isAgg5
  z5 := Tryd.sizeOf5
  v5 := Tryd.zeroValue5
  t9 := Tryd.underlying9
  a9 := Tryd.isAgg9
  z9 := Tryd.sizeOf9
  v9 := Tryd.zeroValue9
  t12 := Tryd.underlying12
  a12 := Tryd.isAgg12
  z12 := Tryd.sizeOf12
  v12 := Tryd.zeroValue12
  t46 := Tryd.underlying117
  a46 := Tryd.isAgg117
  z46 := Tryd.sizeOf117
  v46 := Tryd.zeroValue117
  t53 := Tryd.underlying128
  a53 := Tryd.isAgg128
  z53 := Tryd.sizeOf128
  v53 := Tryd.zeroValue128
  t119 := Tryd.underlying113
  a119 := Tryd.isAgg113
  z119 := Tryd.sizeOf113
  t138 := Tryd.underlying115
  a138 := Tryd.isAgg115
  z138 := Tryd.sizeOf115
  v138 := Tryd.zeroValue115
  t139 := Tryd.underlying116
  a139 := Tryd.isAgg116
  z139 := Tryd.sizeOf116
  v139 := Tryd.zeroValue116
  g3 := by kernel_rfl
  g4 := by kernel_rfl }
end Go.Proofs.YtblnoekogdpolaaDoor
namespace Go.Proofs.YtblnoekogdpolaaDoor
open Go.RowKit Go.WideShapes Go.Joins
theorem g_pow : Tryd.prog.globalNamed "internal/strconv.uint64pow10" = some 2 := by kernel_rfl
theorem g_syn : Tryd.prog.globalNamed "strconv.ErrSyntax" = some 3 := by kernel_rfl
theorem g_rng : Tryd.prog.globalNamed "strconv.ErrRange" = some 4 := by kernel_rfl
structure Laid (w : World) : Prop where
  u8 : Lib.Utf8Tabs 0 1 w
  syn : ∃ tp p, w.var? Tryd.prog "strconv.ErrSyntax" = some #[.iface tp p]
  rng : ∃ tp p, w.var? Tryd.prog "strconv.ErrRange" = some #[.iface tp p]
  pow : Lib.TabIs Tryd.prog w "internal/strconv.uint64pow10" .u64 Lib.pow10Tab
theorem Laid.kept {w w' : World} (h : Laid w) (hb : ∀ k, k < 8 → w'.heap[k]? = w.heap[k]?) : Laid w' := by
  have hc : ∀ a : Addr, a.block < 8 → w'.cell? a = w.cell? a := fun a ha => by unfold World.cell?; rw [hb _ ha]
  have hv : ∀ name g, Tryd.prog.globalNamed name = some g → g < 8 → w'.var? Tryd.prog name = w.var? Tryd.prog name := by
    intro name g hg hlt
    unfold World.var?
    rw [hg]
    simp only [Option.bind_some]
    rw [hb g hlt]
  refine ⟨⟨fun c hc' => ?_, fun i hi => ?_⟩, ?_, ?_, ?_⟩
  · rw [hc ⟨0, c, none⟩ (show (0 : Nat) < 8 by omega)]; exact h.u8.1 c hc'
  · rw [hc ⟨1, 2 * i, none⟩ (show (1 : Nat) < 8 by omega), hc ⟨1, 2 * i + 1, none⟩ (show (1 : Nat) < 8 by omega)]; exact h.u8.2 i hi
  · rw [hv _ 3 g_syn (by decide)]; exact h.syn
  · rw [hv _ 4 g_rng (by decide)]; exact h.rng
  · have := h.pow
    unfold Lib.TabIs at this ⊢
    rw [hv _ 2 g_pow (by decide)]; exact this
theorem Laid.below {w w' : World} (h : Laid w) {B : Nat} (hb : Below B w w') (hB : 8 ≤ B) : Laid w' := h.kept fun k hk => hb.block k (by omega)
theorem Laid.grown {w w' : World} (h : Laid w) {b : Nat} (hb : w.grownBy w' (some b)) (h8 : 8 ≤ b) (hlt : b < w.heap.size) : Laid w' := h.kept fun k hk => hb.block k (by omega) (fun e => by cases e; omega)
end Go.Proofs.YtblnoekogdpolaaDoor
namespace Go.Proofs.YtblnoekogdpolaaDoor
open Go.RowKit Go.WideShapes Go.Joins
theorem below_more {w0 w1 w2 : World} (h : Below w0.heap.size w0 w1) (k : Below w1.heap.size w1 w2) : Below w0.heap.size w0 w2 := h.trans (k.mono h.size)
theorem nums_byte' (s : ByteArray) (k : Nat) (h : k < s.size) : (numsOf s).getD k 0 < 256 := by
  refine numsOf_lt s _ ?_
  rw [List.getD_eq_getElem?_getD, List.getElem?_eq_getElem (by rw [numsOf_len]; exact h)]
  exact List.getElem_mem _
end Go.Proofs.YtblnoekogdpolaaDoor
namespace Go.Proofs.YtblnoekogdpolaaDoor
open Go.RowKit Go.WideShapes Go.Joins
theorem goR_on {α : Type} {p : J.Rd α} (hs : ∀ l v r, p l = .ok v r → ∃ a, l = a ++ r) {s : ByteArray} {i : Nat} {σ' : RS} {v : α} (h : goR p (.live s i) = (σ', some v)) (hi : i ≤ s.size) :
    ∃ j, σ' = .live s j ∧ i ≤ j ∧ j ≤ s.size ∧ ∃ r, p ((numsOf s).drop i) = .ok v r ∧ r.length = s.size - j := by
  simp only [goR] at h
  cases hv : p ((numsOf s).drop i) with
  | ok x r =>
    rw [hv] at h
    cases h
    obtain ⟨a, ha⟩ := hs _ _ _ hv
    have hl := congrArg List.length ha
    rw [rest_len, List.length_append] at hl
    exact ⟨_, rfl, by omega, by omega, r, rfl, by omega⟩
  | bad e r => rw [hv] at h; cases h
  | out => rw [hv] at h; cases h
end Go.Proofs.YtblnoekogdpolaaDoor
namespace Go.Proofs.YtblnoekogdpolaaDoor
open Go.RowKit
def laidLs : List (String × DataW Unit) := [("math/bits.deBruijn32tab", Rows.laid_math_bits_deBruijn32tab), ("math/bits.deBruijn64tab", Rows.laid_math_bits_deBruijn64tab), ("internal/strconv.uint64pow10", Rows.laid_internal_strconv_uint64pow10), ("unicode/utf8.acceptRanges", Rows.laid_unicode_utf8_acceptRanges), ("strconv.ErrRange", Rows.laid_strconv_ErrRange), ("strconv.ErrSyntax", Rows.laid_strconv_ErrSyntax), ("unicode/utf8.first", Rows.laid_unicode_utf8_first)]
noncomputable def baseW (os : Os) : World := World.holding Tryd.prog os ⟨#[], #[], []⟩
noncomputable def laidWorld (os : Os) : World := (baseW os).layVars Tryd.prog laidLs
set_option maxRecDepth 100000 in
theorem plain_fits (os : Os) : (baseW os).layFits Tryd.prog laidLs [] = true := by kernel_rfl
set_option maxRecDepth 100000 in
theorem plain_ifaces (os : Os) : (baseW os).layIfaces Tryd.prog laidLs (laidWorld os) = true := by kernel_rfl
theorem laidPlain (os : Os) : laidMet Tryd.prog laidLs (laidWorld os) := by
  have e1 : (laidLs.filter fun x => (laidLs.map (·.1)).contains x.1) = laidLs := List.filter_eq_self.2 fun x hx => List.contains_iff_mem.2 (List.mem_map.2 ⟨x, hx, rfl⟩)
  have e2 : (laidLs.filter fun x => !(laidLs.map (·.1)).contains x.1) = [] := List.filter_eq_nil_iff.2 fun x hx => by rw [List.contains_iff_mem.2 (List.mem_map.2 ⟨x, hx, rfl⟩)]; simp
  exact laidMet_layVars (w0 := baseW os) (laidLs.map (·.1)) [] (by rw [e1]; rfl) (by rw [e1]; exact plain_fits os) (by rw [e1]; exact plain_ifaces os) (by rw [e2]; exact LaidIn.none)
theorem plain_is : (laidLs.filter fun x => x.2.handleName?.isNone) = laidLs := by kernel_rfl
theorem laidWorld_met (os : Os) (args : Array Value) : laidMetH Tryd.prog laidLs ((laidWorld os).forCall (fun _ _ => 0) ⟨#[], args, []⟩).memory :=
  laidMetH_of_parts (by rw [plain_is]; exact (laidPlain os).of_heap (by simp [World.memory, World.forCall, Input.heap])) (by kernel_rfl)
theorem star_err : "*errors.errorString" = "*" ++ "errors.errorString" := by decide
theorem row_err (u : TypeId) (h : Tryd.prog.typeName? 3 u = some "*errors.errorString") : u = 158 :=
  typeName_ptr_named (nm := "errors.errorString") (by rw [← star_err]; kernel_rfl) (by kernel_rfl) (by decide) u (by rw [← star_err]; exact h)
theorem one_of (n : String) (d : DataW Unit) (hf : (laidLs.filter fun x => x.1 == n) = [(n, d)]) {W : World} (h : laidMet Tryd.prog laidLs W) : laidMet Tryd.prog [(n, d)] W := by
  have := h.filter (fun x => x.1 == n)
  rw [hf] at this
  exact this
theorem var_lt {W : World} {n : String} {g : Nat} {cs : Array Value} (hg : Tryd.prog.globalNamed n = some g) (h : W.var? Tryd.prog n = some cs) : g < W.heap.size := by
  unfold World.var? at h
  rw [hg] at h
  simp only [Option.bind_some] at h
  rcases Nat.lt_or_ge g W.heap.size with h' | h'
  · exact h'
  · rw [Array.getElem?_eq_none h'] at h
    cases h
set_option maxRecDepth 100000 in
theorem laid_of {W : World} (h : laidMetH Tryd.prog laidLs W) : 8 ≤ W.heap.size ∧ Laid W := by
  obtain ⟨h1, _⟩ := laidMetH_iff.1 h
  rw [plain_is] at h1
  have r64 := Lib.laidMet.reads h1 (n := "math/bits.deBruijn64tab") (d := Rows.laid_math_bits_deBruijn64tab) (.tail _ (.head _))
  have r3 := Lib.laidMet.reads h1 (n := "unicode/utf8.first") (d := Rows.laid_unicode_utf8_first) (.tail _ (.tail _ (.tail _ (.tail _ (.tail _ (.tail _ (.head _)))))))
  have r4 := Lib.laidMet.reads h1 (n := "unicode/utf8.acceptRanges") (d := Rows.laid_unicode_utf8_acceptRanges) (.tail _ (.tail _ (.tail _ (.head _))))
  rw [show Rows.laid_unicode_utf8_first = Lib.firstData by kernel_rfl] at r3
  rw [show Rows.laid_unicode_utf8_acceptRanges = Lib.acceptData by kernel_rfl] at r4
  have hp := one_of "internal/strconv.uint64pow10" Rows.laid_internal_strconv_uint64pow10 (by kernel_rfl) h1
  have hs := one_of "strconv.ErrSyntax" Rows.laid_strconv_ErrSyntax (by kernel_rfl) h1
  have hr := one_of "strconv.ErrRange" Rows.laid_strconv_ErrRange (by kernel_rfl) h1
  obtain ⟨a0, t0, hv0, _⟩ := laid_sentinel (g := 3) hs (by kernel_rfl) (by kernel_rfl) Tryd.underlying89 row_err Tryd.underlying158 Tryd.underlying160 rfl rfl Tryd.underlying9 (by kernel_rfl) (by kernel_rfl)
  obtain ⟨a1, t1, hv1, _⟩ := laid_sentinel (g := 4) hr (by kernel_rfl) (by kernel_rfl) Tryd.underlying89 row_err Tryd.underlying158 Tryd.underlying160 rfl rfl Tryd.underlying9 (by kernel_rfl) (by kernel_rfl)
  have g64 : Tryd.prog.globalNamed "math/bits.deBruijn64tab" = some 7 := by kernel_rfl
  obtain ⟨g, t, cs, fuel, p, hg, hty, hvar, hd⟩ := r64
  refine ⟨var_lt g64 hvar, ⟨?_, ⟨_, _, hv0⟩, ⟨_, _, hv1⟩, ?_⟩⟩
  · exact utf8Tabs_of_readsT (ρ := lays197_ren) { lays197 with } ⟨by kernel_rfl, by kernel_rfl, by kernel_rfl, by kernel_rfl, by kernel_rfl, by kernel_rfl, by kernel_rfl⟩ r3 r4
  · exact Lib.tabIs_of_head (rest := []) g_pow (t := 147) (e := 128) (n := 20) (by kernel_rfl) Tryd.underlying147 Tryd.underlying128 (by kernel_rfl) (by kernel_rfl) hp
end Go.Proofs.YtblnoekogdpolaaDoor
