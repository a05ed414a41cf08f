/-
  For every list of changes, number and text: TreeBack returns true, and its arguments read behind the call as they read before; the thirteen listed variables start as the text of the program lays them.
-/
import Derived.Test.YtghcmllmbpoidaaGreatDoorJ46
import Derived.Test.YtghcmllmbpoidaaGreatDoorJ51
import Derived.Test.YtghcmllmbpoidaaGreatDoorJ52
import Derived.Test.YtghcmllmbpoidaaGreatDoorTie
import Derived.Test.YtghcmllmbpoidaaGreatDoorCards
import Derived.SevenTiedAt
import Derived.JoinedOf
namespace Go.Proofs.YtghcmllmbpoidaaGreatDoor.treeBack
open Go.ChangeShapes Go.WideShapes Go.ChangeAt Go.RowKit Go.Deep Go.Joins
set_option linter.unusedVariables false

theorem over : Rows.TreeBackSaid :=
  OpenClaim.holds_of_wide 3 Tryz.f3 rfl rfl rfl rfl rfl rfl rfl ⟨rfl, rfl, rfl, rfl, rfl⟩ rfl rfl rfl rfl rfl jg_name Tryz.func3 jf_all
    (of_decide_eq_true (by kernel_rfl)) (by unfold Func.isWrapper; first | (rw [if_pos (by decide +kernel)]; kernel_rfl) | (rw [if_neg (by decide +kernel)]; exact ⟨rfl, rfl⟩))
    (fun os started H enc _ => lifted os started H enc)
end Go.Proofs.YtghcmllmbpoidaaGreatDoor.treeBack
namespace Go.Proofs.YtghcmllmbpoidaaGreatDoor
open Go

theorem treeBack_card : Rows.TreeBackCardSaid :=
  Claim7.holds_tied_plain_at .later [] [.data, .data, .data, .data, .handle, .sentinel, .sentinel, .pinned, .pinned, .pinned, .pinned, .pinned, .pinned] true (true, "1ed0226f158b7c8dd090ce99d8b2a3b6081a6317624a3cc30359feecfa745415") true
    treeBack.over (fun _ h => by cases h) jg_text (fun _ h => by cases h) treeBack_row_tie rfl ⟨rfl, rfl⟩ jg_main rfl
    (fun f fn hf hfn => by
      obtain rfl : f = 3 := Option.some.inj (jg_name.symm.trans hf) |>.symm
      obtain rfl : fn = Tryz.f3 := (Option.some.inj (Tryz.func3.symm.trans hfn)).symm
      exact ⟨jg_looks, fun j t ht => by
        rw [Tryz.params3] at ht
        have h3 : t = 22 ∨ t = 3 ∨ t = 9 := by
          rcases j with _ | _ | _ | j
          · exact (.inl (by simpa using ht.symm))
          · exact (.inr (.inl (by simpa using ht.symm)))
          · exact (.inr (.inr (by simpa using ht.symm)))
          · simp at ht
        rcases h3 with rfl | rfl | rfl
        · exact jg_c
        · exact jg_i
        · exact jg_s⟩)
    jg_goes
#print axioms treeBack_card
end Go.Proofs.YtghcmllmbpoidaaGreatDoor
