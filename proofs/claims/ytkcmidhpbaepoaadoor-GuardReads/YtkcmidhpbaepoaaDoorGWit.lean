/-
  A world that meets the rows' condition on the program's variables; what that condition gives the walks.
-/
import Derived.Test.YtkcmidhpbaepoaaDoorRows
import Derived.Test.YtkcmidhpbaepoaaDoorChecked
import Derived.Test.YtkcmidhpbaepoaaDoorGRe
import Derived.ChangeSame
import Derived.ChangeVars
import Derived.JoinedOf
import Derived.RowKit
import Derived.RowKitTokens
import Derived.LaidSub
import Derived.LaidLaws
import Derived.LaidHandle
import Derived.Lib.LaidTab
import Derived.Lib.LaidU8T
import Derived.Stop.Joined
import Derived.Stop.LaidErr
import Derived.Lay
namespace Go.Proofs.YtkcmidhpbaepoaaDoor.G
open Go.RowKit

def laidLs : List (String × DataW Unit) := [("math/bits.deBruijn32tab", Rows.laid_math_bits_deBruijn32tab), ("math/bits.deBruijn64tab", Rows.laid_math_bits_deBruijn64tab), ("internal/strconv.uint64pow10", Rows.laid_internal_strconv_uint64pow10), ("strconv.ErrRange", Rows.laid_strconv_ErrRange), ("strconv.ErrSyntax", Rows.laid_strconv_ErrSyntax)]
noncomputable def baseW (os : Os) : World := World.holding Tryd.prog os ⟨#[], #[], []⟩
noncomputable def laidWorld (os : Os) : World := (baseW os).layVars Tryd.prog laidLs
theorem laidWorld_os (os : Os) : (laidWorld os).os = os := World.layVars_os _ _ _
set_option maxRecDepth 100000 in
theorem plain_fits (os : Os) : (baseW os).layFits Tryd.prog laidLs [] = true := by kernel_rfl
set_option maxRecDepth 100000 in
theorem plain_ifaces (os : Os) : (baseW os).layIfaces Tryd.prog laidLs (laidWorld os) = true := by kernel_rfl
theorem laidPlain (os : Os) : laidMet Tryd.prog laidLs (laidWorld os) := by
  have e1 : (laidLs.filter fun x => (laidLs.map (·.1)).contains x.1) = laidLs := List.filter_eq_self.2 fun x hx => List.contains_iff_mem.2 (List.mem_map.2 ⟨x, hx, rfl⟩)
  have e2 : (laidLs.filter fun x => !(laidLs.map (·.1)).contains x.1) = [] := List.filter_eq_nil_iff.2 fun x hx => by rw [List.contains_iff_mem.2 (List.mem_map.2 ⟨x, hx, rfl⟩)]; simp
  exact laidMet_layVars (w0 := baseW os) (laidLs.map (·.1)) [] (by rw [e1]; rfl) (by rw [e1]; exact plain_fits os) (by rw [e1]; exact plain_ifaces os) (by rw [e2]; exact LaidIn.none)
theorem plain_is : (laidLs.filter fun x => x.2.handleName?.isNone) = laidLs := by kernel_rfl
theorem laidWorld_met (os : Os) (args : Array Value) : laidMetH Tryd.prog laidLs ((laidWorld os).forCall (fun _ _ => 0) ⟨#[], args, []⟩).memory :=
  laidMetH_of_parts (by rw [plain_is]; exact (laidPlain os).of_heap (by simp [World.memory, World.forCall, Input.heap])) (by kernel_rfl)
/-! ### What the condition gives -/
theorem star_err : "*errors.errorString" = "*" ++ "errors.errorString" := by decide
theorem row_err (u : TypeId) (h : Tryd.prog.typeName? 3 u = some "*errors.errorString") : u = 77 :=
  typeName_ptr_named (nm := "errors.errorString") (by rw [← star_err]; kernel_rfl) (by kernel_rfl) (by decide) u (by rw [← star_err]; exact h)
theorem one_of (n : String) (d : DataW Unit) (hf : (laidLs.filter fun x => x.1 == n) = [(n, d)]) {W : World} (h : laidMet Tryd.prog laidLs W) : laidMet Tryd.prog [(n, d)] W := by
  have := h.filter (fun x => x.1 == n)
  rw [hf] at this
  exact this
theorem var_lt {W : World} {n : String} {g : Nat} {cs : Array Value} (hg : Tryd.prog.globalNamed n = some g) (h : W.var? Tryd.prog n = some cs) : g < W.heap.size := by
  unfold World.var? at h
  rw [hg] at h
  simp only [Option.bind_some] at h
  rcases Nat.lt_or_ge g W.heap.size with h' | h'
  · exact h'
  · rw [Array.getElem?_eq_none h'] at h
    cases h
set_option maxRecDepth 100000 in
theorem laid_of {W : World} (h : laidMetH Tryd.prog laidLs W) : 6 ≤ W.heap.size ∧ Laid W := by
  obtain ⟨h1, _⟩ := laidMetH_iff.1 h
  rw [plain_is] at h1
  have r64 := Lib.laidMet.reads h1 (n := "math/bits.deBruijn64tab") (d := Rows.laid_math_bits_deBruijn64tab) (.tail _ (.head _))
  have hs := one_of "strconv.ErrSyntax" Rows.laid_strconv_ErrSyntax (by kernel_rfl) h1
  have hr := one_of "strconv.ErrRange" Rows.laid_strconv_ErrRange (by kernel_rfl) h1
  obtain ⟨a0, t0, hv0, _⟩ := laid_sentinel (g := 1) hs (by kernel_rfl) (by kernel_rfl) Tryd.underlying56 row_err Tryd.underlying77 Tryd.underlying79 rfl rfl Tryd.underlying9 (by kernel_rfl) (by kernel_rfl)
  obtain ⟨a1, t1, hv1, _⟩ := laid_sentinel (g := 2) hr (by kernel_rfl) (by kernel_rfl) Tryd.underlying56 row_err Tryd.underlying77 Tryd.underlying79 rfl rfl Tryd.underlying9 (by kernel_rfl) (by kernel_rfl)
  have g64 : Tryd.prog.globalNamed "math/bits.deBruijn64tab" = some 5 := by kernel_rfl
  obtain ⟨g, t, cs, fuel, p, hg, hty, hvar, hd⟩ := r64
  exact ⟨var_lt g64 hvar, ⟨_, _, hv0⟩, ⟨_, _, hv1⟩⟩
end Go.Proofs.YtkcmidhpbaepoaaDoor.G
