/- The law FnExecuteTidy of this seat: for every input the call returns true and its arguments read as before. -/
import Derived.Test.YtehadbpbkenccaaGreatDoorPbExecuteTidy
namespace Go.Proofs.YtehadbpbkenccaaGreatDoor.fnExecuteTidy
open Go.ChangeShapes Go.WideShapes Go.ChangeAt Go.RowKit
open Go.ChangeMaps (open_string shut_string)
set_option linter.unusedVariables false

theorem named3 : Tryz.prog.funcNamed "loop.example/ringorders/laws.FnExecuteTidy" = some 3 := by kernel_rfl
set_option maxRecDepth 100000 in
set_option maxHeartbeats 0 in
theorem closed : joinedFacts Tryz.prog 3 Tryz.f3 Rows.fnExecuteTidySpec Rows.fnExecuteTidyRow = true := by
  unfold joinedFacts
  simp only [Bool.and_eq_true]
  repeat' apply And.intro
  all_goals (as_aux_lemma => kernel_rfl)
theorem over : Rows.fnExecuteTidyRow.holds Tryz.pinned (OpenSpec.ofChange Rows.fnExecuteTidySpec) :=
  OpenClaim.holds_of_wide_leaving 3 Tryz.f3 rfl rfl rfl rfl rfl rfl rfl ⟨rfl, rfl, rfl, rfl, rfl⟩ rfl rfl rfl rfl rfl named3 Tryz.func3 closed
    (of_decide_eq_true (by kernel_rfl)) (by unfold Func.isWrapper; first | (rw [if_pos (by decide +kernel)]; kernel_rfl) | (rw [if_neg (by decide +kernel)]; exact ⟨rfl, rfl⟩))
    (fun os started H enc _ => leaving_of_handed (lifted os started H enc))

end Go.Proofs.YtehadbpbkenccaaGreatDoor.fnExecuteTidy
