import Derived.Test.YtghcmllmbpoidaaGreatDoorRows
import Derived.Test.YtghcmllmbpoidaaGreatDoorChecked
import Derived.Test.YtghcmllmbpoidaaGreatDoorJ44
import Derived.ChangeSame
import Derived.ChangeVars
import Derived.JoinedOf
import Derived.RowKit
import Derived.RowKitTokens
import Derived.LaidSub
import Derived.LaidLaws
import Derived.LaidHandle
import Derived.Lib.LaidTab
import Derived.Stop.Joined
import Derived.Lay
namespace Go.Proofs.YtghcmllmbpoidaaGreatDoor
open Go.RowKit
noncomputable def layCells (cs : Array Value) : Obj → Obj
  | .cells _ t frozen => .cells cs t frozen
  | o => o
noncomputable def gIx (s : String) : Nat := (Tryz.prog.globalNamed s).getD 0
def plainL : List (String × DataW Unit) := [("math/bits.deBruijn32tab", Rows.laid_math_bits_deBruijn32tab), ("math/bits.deBruijn64tab", Rows.laid_math_bits_deBruijn64tab), ("internal/strconv.uint64pow10", Rows.laid_internal_strconv_uint64pow10), ("unicode/utf8.acceptRanges", Rows.laid_unicode_utf8_acceptRanges), ("strconv.ErrRange", Rows.laid_strconv_ErrRange), ("strconv.ErrSyntax", Rows.laid_strconv_ErrSyntax), ("strconv.isGraphic", Rows.laid_strconv_isGraphic), ("strconv.isNotPrint16", Rows.laid_strconv_isNotPrint16), ("strconv.isNotPrint32", Rows.laid_strconv_isNotPrint32), ("strconv.isPrint16", Rows.laid_strconv_isPrint16), ("strconv.isPrint32", Rows.laid_strconv_isPrint32), ("unicode/utf8.first", Rows.laid_unicode_utf8_first)]
def laidLs : List (String × DataW Unit) := [("math/bits.deBruijn32tab", Rows.laid_math_bits_deBruijn32tab), ("math/bits.deBruijn64tab", Rows.laid_math_bits_deBruijn64tab), ("internal/strconv.uint64pow10", Rows.laid_internal_strconv_uint64pow10), ("unicode/utf8.acceptRanges", Rows.laid_unicode_utf8_acceptRanges), ("errors.errorType", Rows.laid_errors_errorType), ("strconv.ErrRange", Rows.laid_strconv_ErrRange), ("strconv.ErrSyntax", Rows.laid_strconv_ErrSyntax), ("strconv.isGraphic", Rows.laid_strconv_isGraphic), ("strconv.isNotPrint16", Rows.laid_strconv_isNotPrint16), ("strconv.isNotPrint32", Rows.laid_strconv_isNotPrint32), ("strconv.isPrint16", Rows.laid_strconv_isPrint16), ("strconv.isPrint32", Rows.laid_strconv_isPrint32), ("unicode/utf8.first", Rows.laid_unicode_utf8_first)]
noncomputable def baseW (os : Os) : World :=
  let w0 := World.holding Tryz.prog os ⟨#[], #[], []⟩
  { w0 with heap := w0.heap.modify (gIx "errors.errorType") (layCells #[.iface 169 (.agg #[.pointer (some ⟨14, 45, none⟩)])]) }
noncomputable def laidWorld (os : Os) : World := (baseW os).layVars Tryz.prog plainL
theorem laidWorld_os (os : Os) : (laidWorld os).os = os := World.layVars_os _ _ _
set_option maxRecDepth 100000 in
theorem plain_fits (os : Os) : (baseW os).layFits Tryz.prog plainL [] = true := by kernel_rfl
set_option maxRecDepth 100000 in
theorem plain_ifaces (os : Os) : (baseW os).layIfaces Tryz.prog plainL (laidWorld os) = true := by kernel_rfl
theorem laidPlain (os : Os) : laidMet Tryz.prog plainL (laidWorld os) := by
  have e1 : (plainL.filter fun x => (plainL.map (·.1)).contains x.1) = plainL := List.filter_eq_self.2 fun x hx => List.contains_iff_mem.2 (List.mem_map.2 ⟨x, hx, rfl⟩)
  have e2 : (plainL.filter fun x => !(plainL.map (·.1)).contains x.1) = [] := List.filter_eq_nil_iff.2 fun x hx => by rw [List.contains_iff_mem.2 (List.mem_map.2 ⟨x, hx, rfl⟩)]; simp
  exact laidMet_layVars (w0 := baseW os) (plainL.map (·.1)) [] (by rw [e1]; rfl) (by rw [e1]; exact plain_fits os) (by rw [e1]; exact plain_ifaces os) (by rw [e2]; exact LaidIn.none)
theorem plain_is : (laidLs.filter fun x => x.2.handleName?.isNone) = plainL := by kernel_rfl
theorem laidWorld_met (os : Os) (args : Array Value) : laidMetH Tryz.prog laidLs ((laidWorld os).forCall (fun _ _ => 0) ⟨#[], args, []⟩).memory :=
  laidMetH_of_parts (by rw [plain_is]; exact (laidPlain os).of_heap (by simp [World.memory, World.forCall, Input.heap])) (by kernel_rfl)
def debL : List Int := [0, 1, 56, 2, 57, 49, 28, 3, 61, 58, 42, 50, 38, 29, 17, 4, 62, 47, 59, 36, 45, 43, 51, 22, 53, 39, 33, 30, 24, 18, 12, 5, 63, 55, 48, 27, 60, 41, 37, 16, 46, 35, 44, 21, 52, 32, 23, 11, 54, 26, 40, 15, 34, 20, 31, 10, 25, 14, 19, 9, 13, 8, 7, 6]
theorem g_deb : Tryz.prog.globalNamed "math/bits.deBruijn64tab" = some 3 := by kernel_rfl
theorem deb_of {W : World} (h : laidMet Tryz.prog [("math/bits.deBruijn64tab", Rows.laid_math_bits_deBruijn64tab)] W) : Lib.TabIs Tryz.prog W "math/bits.deBruijn64tab" .u8 debL :=
  Lib.tabIs_of_head (rest := []) g_deb (t := 373) (e := 5) (n := 64) (by kernel_rfl) Tryz.underlying373 Tryz.underlying5 (by kernel_rfl) (by kernel_rfl) h
theorem debL_at : ∀ j, j < 64 → ∃ k : Nat, k ≤ 63 ∧ (debL.map fun z => Value.int .u8 z).toArray[j]? = some (.int .u8 (k : Int)) := by
  intro j hj
  have h : ∀ j : Fin 64, 0 ≤ debL.getD j.val 0 ∧ debL.getD j.val 0 ≤ 63 := by decide
  obtain ⟨h1, h2⟩ : 0 ≤ debL.getD j 0 ∧ debL.getD j 0 ≤ 63 := h ⟨j, hj⟩
  refine ⟨(debL.getD j 0).toNat, by omega, ?_⟩
  have hl : j < debL.length := hj
  rw [Int.toNat_of_nonneg h1, List.getElem?_toArray, List.getElem?_map, List.getElem?_eq_getElem hl, List.getD_eq_getElem?_getD, List.getElem?_eq_getElem hl]
  rfl
theorem one_deb : (plainL.filter fun x => x.1 == "math/bits.deBruijn64tab") = [("math/bits.deBruijn64tab", Rows.laid_math_bits_deBruijn64tab)] := by kernel_rfl
theorem one_pow : (plainL.filter fun x => x.1 == "internal/strconv.uint64pow10") = [("internal/strconv.uint64pow10", Rows.laid_internal_strconv_uint64pow10)] := by kernel_rfl
theorem laid_ofT {W : World} (h : laidMetH Tryz.prog laidLs W) : Laid W ∧ Mg.Laid W := by
  obtain ⟨h1, h2⟩ := laidMetH_iff.1 h
  rw [plain_is] at h1
  have hp := h1.filter (fun x => x.1 == "internal/strconv.uint64pow10")
  have hdb := h1.filter (fun x => x.1 == "math/bits.deBruijn64tab")
  rw [one_pow] at hp
  rw [one_deb] at hdb
  refine ⟨⟨errT_of fun x hx => h2 x ?_, tab_of hp⟩, ?_⟩
  · rw [List.mem_singleton.1 hx]
    exact List.mem_filter.2 ⟨by simp [laidLs], by rfl⟩
  · have h3 := deb_of hdb
    intro j hj
    obtain ⟨k, hk, e⟩ := debL_at j hj
    exact ⟨k, hk, (World.var?_cell g_deb h3 j).trans e⟩
theorem law_back (v : Value) (l : List Tr.CV) (seq : Int) (s : ByteArray) (W : World) (hL : Laid W ∧ Mg.Laid W) (hv : Tr.Chgs W v l) (_hs : (Lit.int .i64 seq).wf = true) (hk : s.size ≤ maxLen) :
    Calls Tryz.prog 3 #[v, .int .i64 seq, .string s] W fun e W' => e = .returned (.bool true) ∧ Below W.heap.size W W' := by
  obtain ⟨q, c, rfl, hin, hlc, hcm, hqn⟩ := hv.lies
  exact treeBack_walk q c l seq s W hL.1 hL.2 hin hlc hcm hqn (fun x hx => by
    have h1 := (hv.wf x hx).key
    have h2 := (hv.wf x hx).val
    unfold maxLen at h1 h2
    omega) hk
end Go.Proofs.YtghcmllmbpoidaaGreatDoor
