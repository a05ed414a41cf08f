import Derived.Test.YtcfalgomcdmdhaaDoorJHexB
import Derived.Test.YtcfalgomcdmdhaaDoorJRead
import Derived.Test.YtcfalgomcdmdhaaDoorXShelf
import Derived.Test.YtcfalgomcdmdhaaDoorProg
import Derived.Test.YtcfalgomcdmdhaaDoorXShelfU
import Derived.Shelf.Strconv.ErrVarParseInt
import Derived.Lib.LaidTab
import Derived.Lib.ItoaNum
namespace Go.Proofs.YtcfalgomcdmdhaaDoor
open Go.RowKit Go.WideShapes Go.Joins
theorem g_pow : Tryd.prog.globalNamed "internal/strconv.uint64pow10" = some 2 := by kernel_rfl
theorem g_syn : Tryd.prog.globalNamed "strconv.ErrSyntax" = some 3 := by kernel_rfl
theorem g_rng : Tryd.prog.globalNamed "strconv.ErrRange" = some 4 := by kernel_rfl
structure Laid (w : World) : Prop where
  u8 : Lib.Utf8Tabs 0 1 w
  syn : ∃ tp p, w.var? Tryd.prog "strconv.ErrSyntax" = some #[.iface tp p]
  rng : ∃ tp p, w.var? Tryd.prog "strconv.ErrRange" = some #[.iface tp p]
  pow : Lib.TabIs Tryd.prog w "internal/strconv.uint64pow10" .u64 Lib.pow10Tab
theorem Laid.kept {w w' : World} (h : Laid w) (hb : ∀ k, k < 8 → w'.heap[k]? = w.heap[k]?) : Laid w' := by
  have hc : ∀ a : Addr, a.block < 8 → w'.cell? a = w.cell? a := fun a ha => by unfold World.cell?; rw [hb _ ha]
  have hv : ∀ name g, Tryd.prog.globalNamed name = some g → g < 8 → w'.var? Tryd.prog name = w.var? Tryd.prog name := by
    intro name g hg hlt
    unfold World.var?
    rw [hg]
    simp only [Option.bind_some]
    rw [hb g hlt]
  refine ⟨⟨fun c hc' => ?_, fun i hi => ?_⟩, ?_, ?_, ?_⟩
  · rw [hc ⟨0, c, none⟩ (show (0 : Nat) < 8 by omega)]; exact h.u8.1 c hc'
  · rw [hc ⟨1, 2 * i, none⟩ (show (1 : Nat) < 8 by omega), hc ⟨1, 2 * i + 1, none⟩ (show (1 : Nat) < 8 by omega)]; exact h.u8.2 i hi
  · rw [hv _ 3 g_syn (by decide)]; exact h.syn
  · rw [hv _ 4 g_rng (by decide)]; exact h.rng
  · have := h.pow
    unfold Lib.TabIs at this ⊢
    rw [hv _ 2 g_pow (by decide)]; exact this
theorem Laid.below {w w' : World} (h : Laid w) {B : Nat} (hb : Below B w w') (hB : 8 ≤ B) : Laid w' := h.kept fun k hk => hb.block k (by omega)
theorem Laid.grown {w w' : World} (h : Laid w) {b : Nat} (hb : w.grownBy w' (some b)) (h8 : 8 ≤ b) (hlt : b < w.heap.size) : Laid w' := h.kept fun k hk => hb.block k (by omega) (fun e => by cases e; omega)
end Go.Proofs.YtcfalgomcdmdhaaDoor
